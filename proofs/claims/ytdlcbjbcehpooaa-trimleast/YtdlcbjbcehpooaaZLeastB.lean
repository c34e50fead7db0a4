/-
  The law TrimLeast (a right word), walked: it returns true, whatever the table and the list.
-/
import Derived.Test.YtdlcbjbcehpooaaZLeastA
import Derived.Deep.CutRange
namespace Go.Proofs.Ytdlcbjbcehpooaa
open Go.RowKit

set_option maxRecDepth 100000 in
set_option maxHeartbeats 8000000 in
theorem trimLeast_ok (m : Mc) (a1 : Option Addr) (c1 : Nat) (a2 : Option Addr) (c2 : Nat) (a0 : Option Addr) (c0 : Nat) (wd : List Int) (w : World) (h0 : ArgM w m a1 c1 a2 c2) (g0 : ArgL .i64 8 w a0 c0 wd) (hbig : bigB 300 m = false) (hlong : ¬ 2000 < wd.length) (hz : (mchV m).2 = 0) (hw : (wchV wd m.k).2 = 0) :
    Calls Try.prog 8 #[mval m a1 c1 a2 c2, .slice a0 wd.length c0] w fun e w' => e = .returned (.bool true) ∧ Below w.heap.size w w' := by
  unfold mval
  have B0 := Box.alloc w m a1 c1 a2 c2 24
  have b0 := ballo w (.cells #[.int .i64 m.kind, .int .i64 m.k, .int .i64 m.o, .int .i64 m.n, .slice a1 m.nx.length c1, .slice a2 m.out.length c2] 24)
  obtain ⟨n300, ln, lo⟩ := big_bounds hbig
  have mn : m.nx.length ≤ maxLen := by unfold maxLen; omega
  have mo : m.out.length ≤ maxLen := by unfold maxLen; omega
  have ml : wd.length ≤ maxLen := by unfold maxLen; omega
  have R := right_of hz
  have HR := hide R
  have HC := hide (rcV_ok hz)
  have I := rchV_inv R
  have hl3 := (rch_len R).1
  have k0 := R.k0
  have k1 := R.k1
  have n0 := R.n0
  clear hz R
  generalize (rchV m).1 = S at *
  generalize (rchV m).2 = V at *
  have HI := hide I
  have hlen := I.len
  have ts : ((S.length : Int) != (V.length : Int)) = false := ne_f (by omega)
  have hne := I.ne
  have ts0 : ((S.length : Int) == 0) = false := eq_f (by omega)
  have hV1 : V.length ≤ 1024 := by omega
  have hV0 : 0 < V.length := by omega
  have HLN := hide hlen
  have HV0 := hide I.v0
  clear I hlen
  have tw : ((wchV wd m.k).2 != 0) = false := ne_f hw
  have tw2 : ((wchV wd m.k).2 == 0) = true := eq_t hw
  obtain ⟨_, _, hl4, hwd⟩ := word_of_chk hw
  have HW := hide hwd
  have HE : Hid ((goV m 0 wd []).1 = ends m 0 wd) := goV_ends m wd 0 []
  have hws : ∀ y ∈ wd, 0 ≤ y ∧ y < m.k := fun y hy => by
    obtain ⟨p, hp, rfl⟩ := mem_gd hy
    exact hwd p hp
  obtain ⟨at', hat'⟩ : ∃ a, a = ends m 0 wd := ⟨_, rfl⟩
  rw [← hat'] at HE
  obtain ⟨F, hF⟩ : ∃ F : Nat → Bool, F = fun i => decide (at' ∈ S.take i) := ⟨_, rfl⟩
  have HF0 : Hid (F 0 = false) := by show _ = _; rw [hF]; simp
  have HFe : Hid (F S.length = true) := by
    show _ = _
    rw [hF]
    obtain ⟨p, hp, e, _⟩ := reach_word (unhide HI) hws
    rw [← hat'] at e
    simp only [List.take_length, decide_eq_true_eq]
    rw [← e]; exact gd_mem hp
  have HFs : Hid (∀ i, i < S.length → (S.getD i 0 = at' → F (i + 1) = true) ∧ (S.getD i 0 ≠ at' → F (i + 1) = F i)) := fun i hi => by
    rw [hF]
    refine ⟨fun e => ?_, fun e => ?_⟩
    · simp only [decide_eq_true_eq]; rw [take_snoc hi, e]; simp
    · simp only [take_snoc hi, List.mem_append, List.mem_singleton]
      congr 1
      exact propext ⟨fun h => h.elim id fun h => absurd h.symm e, Or.inl⟩
  have HFa : Hid (∀ i, i < S.length → S.getD i 0 = at' → ahdL wd (V.getD i []) = false) := fun i hi e => ahdL_no (reach_least (unhide HI) hws hi (by rw [e, hat']))
  clear hw hF hws hat' hwd
  go_enter Try.func8, Try.ntmps8
  go_wp2_with fail
  refine (big_any 300 m a1 c1 a2 c2 _).mono ?_
  rw [hbig]
  rintro e w1 ⟨rfl, hb1⟩
  have b1 := bstep b0 hb1
  have B1 := B0.below hb1
  obtain ⟨p0, p1, p2, p3, p4, p5⟩ := id B1
  clear hb1
  clear B0 b0 hbig
  go_wp2_with fail
  refine (reach_any m a1 c1 a2 c2 w1 (h0.nx.rd.below b1) (h0.out.rd.below b1) mn mo).mono ?_
  rintro e w2 ⟨v, vv, vs, rfl, hv, hLL, -, hb2⟩
  rw [unhide HC] at hv hLL ⊢
  dsimp only at hv hLL ⊢
  obtain ⟨av, cv, ev, -, -, -, rv, -⟩ := hv.shape
  subst ev
  obtain ⟨al, cl, el, rl⟩ := hLL.rd
  subst el
  have b2 := bstep b1 hb2
  have B2 := B1.below hb2
  obtain ⟨q0, q1, q2, q3, q4, q5⟩ := id B2
  clear p0 p1 p2 p3 p4 p5 hb2 b1 B1 hv
  obtain ⟨bl, ol, el, hcl⟩ := rl.rd.at hV0
  subst el
  have hc0 := hcl 0 hV0
  obtain ⟨ai, ci, ei, -⟩ := rl.el 0 hV0
  rw [ei, unhide HV0, Nat.add_zero] at hc0
  clear hcl ei
  go_wp2_with (go_at_call 16; refine (num_any _ _).mono ?_; rintro e w' ⟨rfl, rfl⟩)
  refine (rcheck_any a0 wd.length c0 (fun i => wd.getD i 0) m.k _ (g0.rd.below b2) ml).mono ?_
  rw [show chkV wd.length (fun i => wd.getD i 0) m.k = wchV wd m.k from rfl]
  rintro e w3 ⟨rfl, rfl⟩
  go_wp2_with fail
  refine (rgo_any m a1 c1 a2 c2 0 a0 c0 wd w3 (unhide HR) (Int.le_refl _) (by omega) (unhide HW) hl4 (h0.nx.rd.below b2) (h0.out.rd.below b2) (g0.rd.below b2)).mono ?_
  rw [unhide HE]
  rintro e w4 ⟨v4, rfl, I4, hb4⟩
  obtain ⟨a4, c4, e4, -, -, -, -, -⟩ := I4.shape
  subst e4
  have bW := bstep b2 hb4
  have BW := B2.below hb4
  have rv := rv.below hb4
  have hLL := hLL.below hb4
  clear hb4 b2 B2 I4 q0 q1 q2 q3 q4 q5
  obtain ⟨q0, q1, q2, q3, q4, q5⟩ := id BW
  go_wp2
  go_loopw [11, 12] (fun fd a wx => ∃ i : Nat, a = .int .i64 i ∧ i ≤ S.length ∧ fd = .bool (F i) ∧ Below w4.heap.size w4 wx) (fun _ a _ => S.length - (intOf a).toNat)
  case atStart => exact ⟨0, rfl, Nat.zero_le _, (by rw [unhide HF0]), Below.refl _ _⟩
  case round =>
    obtain ⟨i, rfl, hi, rfl, hbx⟩ := hrel
    clear q0 q1 q2 q3 q4 q5
    have bb := bstep bW hbx
    by_cases hlt : i < S.length
    rotate_left
    · have he : i = S.length := by omega
      subst he
      have tf := unhide HFe
      go_wp2_with (go_at_call 10; refine (live_any _).mono ?_; rintro e wl ⟨rfl, hbl⟩)
      go_ret
      exact ⟨rfl, bstep bb hbl⟩
    have hiV : i < V.length := by have := unhide HLN; omega
    have hiV' : (i : Int) < (V.length : Int) := by omega
    have hlt' : (i : Int) < (S.length : Int) := by omega
    have BX := BW.below hbx
    obtain ⟨q0, q1, q2, q3, q4, q5⟩ := id BX
    have LX := hLL.below hbx
    obtain ⟨_, _, el', rd'⟩ := LX.rdx
    cases el'
    obtain ⟨bl', ol', el', hcl⟩ := rd'.at hiV
    cases el'
    have hci := hcl i hiV
    obtain ⟨ai, ci, ei, hnil, hlc, ri, -⟩ := (LX.fam.own i hiV).shape
    obtain ⟨bs, os, es, hcs⟩ := (rv.below hbx).at hlt
    subst es
    have hsi := hcs i hlt
    have hXl := rinv_len (unhide HI) i hlt
    obtain ⟨s, hs⟩ : ∃ s, s = S.getD i 0 := ⟨_, rfl⟩
    obtain ⟨X, hX⟩ : ∃ X, X = V.getD i [] := ⟨_, rfl⟩
    have eL : nsV V i = X.length := by unfold nsV; rw [hX]
    rw [eL] at ei hlc
    rw [ei] at hci
    have ri : RdL .i64 wr ai X := by rw [hX]; exact ri
    rw [← hs] at hsi
    rw [← hX] at hXl
    have HG : Hid ((goV m 0 X []).1 = s) := by
      show _ = _; rw [goV_ends, hX, hs]; exact (unhide HI).lead i hlt
    have HXs : Hid (∀ j, j < X.length → 0 ≤ X.getD j 0 ∧ X.getD j 0 < m.k) := fun j hj => by
      have := (unhide HI).sym i hlt (X.getD j 0) (by rw [← hX]; exact gd_mem hj)
      exact this
    have HX := hide hX
    have HS := hide hs
    have hX4 : X.length ≤ 4096 := by omega
    have hXm : X.length ≤ maxLen := by unfold maxLen; omega
    have bd := bstep bb (bdrew1 wr)
    have rid : RdL .i64 wr.drew ai X := ri.below (bdrew1 wr)
    have EI := hide ei
    clear hcs hs hX eL rd' hnil ei hcl
    go_wp2
    go_cut [13] from 77 to 155 (fun tt wx => tt = .int .i64 s ∧ Below wr.heap.size wr wx)
    case first =>
      go_region_with (go_at_call 28; refine (rgo_any m a1 c1 a2 c2 0 ai ci X _ (unhide HR) (Int.le_refl _) (by omega) (unhide HXs) hX4 (h0.nx.rd.below bd) (h0.out.rd.below bd) rid).mono ?_; rw [unhide HG]; rintro e w5 ⟨v5, rfl, I5, hb5⟩; have x5 := bstep (bdrew1 wr) hb5; obtain ⟨a5, c5, e5, -, -, -, -, -⟩ := I5.shape; subst e5)
      all_goals
        go_wp2
        go_meet
        exact ⟨rfl, x5⟩
    case rest =>
      obtain ⟨rfl, hbc⟩ := hcut
      have bc := bstep bb hbc
      have hbxc := bstep hbx hbc
      have rvc := (rv.below hbx).below hbc
      obtain ⟨bs', os', es', hcs⟩ := rvc.at hlt
      cases es'
      have hsi := hcs i hlt
      rw [← unhide HS] at hsi
      have Lc := LX.below hbc
      obtain ⟨_, _, el', rd'⟩ := Lc.rdx
      cases el'
      obtain ⟨bl', ol', el', hcl⟩ := rd'.at hiV
      cases el'
      have hci := hcl i hiV
      rw [unhide EI] at hci
      have ric := ri.below hbc
      have tss : (s != s) = false := self_ne s
      have hbls := World.block_lt_of_cell? wc _ hci
      have hFs := unhide HFs i hlt
      rw [← unhide HS] at hFs
      have HFi := hide hFs
      have HFx : Hid (s = at' → ahdL wd X = false) := fun e => by rw [unhide HX]; exact unhide HFa i hlt (by rw [← unhide HS]; exact e)
      clear hFs q0 q1 q2 q3 q4 q5 hcs rd' rvc
      by_cases h0i : i = 0
      · have hX0 : X = [] := by rw [unhide HX, h0i]; exact unhide HV0
        have ti : ¬ (0 : Int) < (i : Int) := by omega
        have td : decide ((0 : Int) < (i : Int)) = false := decide_eq_false ti
        have ti2 : ¬ 0 < i := by omega
        have td2 : decide (0 < i) = false := decide_eq_false ti2
        subst hX0
        by_cases hat : s = at'
        · have te : (s == at') = true := eq_t hat
          have HA := hide (unhide HFx hat)
          have HN := hide ((unhide HFi).1 hat)
          clear hat hcl h0i
          go_wp2
          go_quiet (fail)
          go_wp2_with (go_at_call 29; refine (ahead_l a0 ai c0 ci wd [] _ (g0.rd.below (bstep bc (bdrew wc nq))) (ric.below (bdrew wc nq)) ml hXm).mono ?_; rw [unhide HA]; rintro e w6 ⟨rfl, hdr⟩; have x6 : Below wc.heap.size wc w6 := bstep (bdrew wc nq) hdr.below; have hci6 := (x6.cell (by exact hbls)).trans hci; clear hdr)
          go_roundw
          case rel => exact ⟨i + 1, by go_num, by omega, (by rw [unhide HN]), bstep hbxc x6⟩
          case measure => simp [intOf]; omega
        · have te : (s == at') = false := eq_f hat
          have HN := hide ((unhide HFi).2 hat)
          clear hat hcl h0i
          go_wp2
          go_quiet (fail)
          go_wp2
          go_roundw
          case rel => exact ⟨i + 1, by go_num, by omega, (by rw [unhide HN]), bstep hbxc (bdrew wc _)⟩
          case measure => simp [intOf]; omega
      obtain ⟨i', hi'⟩ : ∃ i' : Nat, i = i' + 1 := ⟨i - 1, by omega⟩
      have hm1 : (i : Int) - 1 = (i' : Int) := by omega
      have hm2 : (i' : Int) < (V.length : Int) := by omega
      have ti : (0 : Int) < (i : Int) := by omega
      have td : decide ((0 : Int) < (i : Int)) = true := decide_eq_true ti
      have ti2 : 0 < i := by omega
      have td2 : decide (0 < i) = true := decide_eq_true ti2
      have hi'V : i' < V.length := by omega
      have hcp := hcl i' hi'V
      obtain ⟨ap, cp, ep, -, -, rp, -⟩ := (Lc.fam.own i' hi'V).shape
      obtain ⟨Y, hY⟩ : ∃ Y, Y = V.getD i' [] := ⟨_, rfl⟩
      have eLY : nsV V i' = Y.length := by unfold nsV; rw [hY]
      rw [ep, eLY] at hcp
      have rp : RdL .i64 wc ap Y := by rw [hY]; exact rp
      have hYl : Y.length ≤ maxLen := by
        have h8 := rinv_len (unhide HI) i' (by omega)
        rw [← hY] at h8; unfold maxLen; omega
      have HAY : Hid (ahdL Y X = true) := by
        rw [hY, unhide HX]; exact ahdL_yes ((unhide HI).srt i' i (by omega) hlt)
      have HPB : Hid (bG V (X.take (X.length - 1)) i = true) := by
        obtain ⟨jj, y, h1, -, -, h3⟩ := (unhide HI).par i (by omega) hlt
        refine bG_yes h1 ?_
        rw [unhide HX, h3]; simp
      have hXp : (0 : Int) < (X.length : Int) := by
        obtain ⟨jj, y, h1, -, -, h3⟩ := (unhide HI).par i (by omega) hlt
        rw [unhide HX, h3, List.length_append, List.length_singleton]; omega
      have HAQ : Hid (∀ q, Calls Try.prog 29 #[.slice ap Y.length cp, .slice ai X.length ci] (wc.drewN q) fun e w'' => e = .returned (.bool true) ∧ ∃ m, w'' = wc.drewN m) := fun q => by
        have h8 := ahead_l ap ai cp ci Y X (wc.drewN q) (rp.below (bdrew wc q)) (ric.below (bdrew wc q)) hYl hXm
        rw [unhide HAY] at h8
        exact quiet_of_draws h8
      clear hY ep eLY hcl h0i hi'
      by_cases hat : s = at'
      · have te : (s == at') = true := eq_t hat
        have HA := hide (unhide HFx hat)
        have HN := hide ((unhide HFi).1 hat)
        clear hat
        go_wp2
        go_quiet ((go_at_call 29; exact unhide HAQ _))
        go_wp2_with (go_at_call 29; refine (ahead_l a0 ai c0 ci wd X _ (g0.rd.below (bstep bc (bdrew wc nq))) (ric.below (bdrew wc nq)) ml hXm).mono ?_; rw [unhide HA]; rintro e w6 ⟨rfl, hdr⟩; have x6 : Below wc.heap.size wc w6 := bstep (bdrew wc nq) hdr.below; have hci6 := (x6.cell (by exact hbls)).trans hci; clear hdr)
        go_loopw [15, 16] (fun bg a wx => ∃ k : Nat, a = .int .i64 k ∧ k ≤ i ∧ bg = .bool (bG V (X.take (X.length - 1)) k) ∧ Below wc.heap.size wc wx) (fun _ a _ => i - (intOf a).toNat)
        case atStart => exact ⟨0, rfl, Nat.zero_le _, rfl, x6⟩
        case round =>
          obtain ⟨k, rfl, hk, hbg, hbk⟩ := hrel
          have cik := (hbk.cell (by exact hbls)).trans hci
          by_cases hki : k < i
          rotate_left
          · have he : k = i := by omega
            subst he
            rw [unhide HPB] at hbg
            subst hbg
            go_wp2
            go_roundw
            case rel => exact ⟨k + 1, by go_num, by omega, (by rw [unhide HN]), bstep hbxc hbk⟩
            case measure => simp [intOf]; omega
          have hki' : (k : Int) < (i : Int) := by omega
          have hkV : k < V.length := by omega
          have hkV' : (k : Int) < (V.length : Int) := by omega
          have Lk := Lc.below hbk
          obtain ⟨_, _, el', rdk⟩ := Lk.rdx
          cases el'
          obtain ⟨bl', ol', el', hclk⟩ := rdk.at hkV
          cases el'
          have hck := hclk k hkV
          obtain ⟨ak, ck, ek, -, -, rk, -⟩ := (Lk.fam.own k hkV).shape
          obtain ⟨Z, hZ⟩ : ∃ Z, Z = V.getD k [] := ⟨_, rfl⟩
          have eLZ : nsV V k = Z.length := by unfold nsV; rw [hZ]
          rw [ek, eLZ] at hck
          have rk : RdL .i64 wr ak Z := by rw [hZ]; exact rk
          have hZl : Z.length ≤ maxLen := by
            have h8 := rinv_len (unhide HI) k (by omega)
            rw [← hZ] at h8; unfold maxLen; omega
          have HZ := hide hZ
          clear hZ ek eLZ hclk rdk
          by_cases hb : bG V (X.take (X.length - 1)) k = true
          · have HB : Hid (bG V (X.take (X.length - 1)) (k + 1) = true) := by show _ = _; rw [bG_succ, hb]; rfl
            rw [hb] at hbg
            subst hbg
            clear hb
            go_wp2
            go_quiet (fail)
            go_wp2
            go_roundw
            case rel => exact ⟨k + 1, by go_num, by omega, (by rw [unhide HB]), bstep hbk (bdrew _ _)⟩
            case measure => simp [intOf]; omega
          · have hb' : bG V (X.take (X.length - 1)) k = false := by simpa using hb
            have HB : Hid (bG V (X.take (X.length - 1)) (k + 1) = decide (Z = X.take (X.length - 1))) := by show _ = _; rw [bG_succ, hb', unhide HZ]; rfl
            have hTl : (X.take (X.length - 1)).length = X.length - 1 := by rw [List.length_take]; omega
            have HSQ : ∀ q, Calls Try.prog 14 #[.slice ak Z.length ck, .slice ai (X.length - 1) ci] (wr.drewN q) fun e w'' => e = .returned (.bool (decide (Z = X.take (X.length - 1)))) ∧ ∃ m, w'' = wr.drewN m := fun q => by
              have h8 := same_dr ak ai ck ci Z (X.take (X.length - 1)) (wr.drewN q) (rk.below (bdrew wr q)) (((ric.below hbk).takeL (X.length - 1)).below (bdrew wr q)) hZl
              rw [hTl] at h8
              exact quiet_of_draws h8
            have HSQ' := hide HSQ
            have sl0 : 0 ≤ (X.length : Int) - 1 := by omega
            have sl1 : (X.length : Int) - 1 ≤ (ci : Int) := by omega
            have sl2 : ((X.length : Int) - 1).toNat = X.length - 1 := by omega
            rw [hb'] at hbg
            subst hbg
            clear hb hb' HSQ hTl
            go_wp2
            go_quiet ((go_at_call 14; exact unhide HSQ' _))
            go_wp2
            go_roundw
            case rel => exact ⟨k + 1, by go_num, by omega, (by rw [unhide HB]), bstep hbk (bdrew _ _)⟩
            case measure => simp [intOf]; omega
      · have te : (s == at') = false := eq_f hat
        have HN := hide ((unhide HFi).2 hat)
        clear hat
        go_wp2
        go_quiet ((go_at_call 29; exact unhide HAQ _))
        go_wp2
        go_loopw [15, 16] (fun bg a wx => ∃ k : Nat, a = .int .i64 k ∧ k ≤ i ∧ bg = .bool (bG V (X.take (X.length - 1)) k) ∧ Below wc.heap.size wc wx) (fun _ a _ => i - (intOf a).toNat)
        case atStart => exact ⟨0, rfl, Nat.zero_le _, rfl, bdrew wc _⟩
        case round =>
          obtain ⟨k, rfl, hk, hbg, hbk⟩ := hrel
          have cik := (hbk.cell (by exact hbls)).trans hci
          by_cases hki : k < i
          rotate_left
          · have he : k = i := by omega
            subst he
            rw [unhide HPB] at hbg
            subst hbg
            go_wp2
            go_roundw
            case rel => exact ⟨k + 1, by go_num, by omega, (by rw [unhide HN]), bstep hbxc hbk⟩
            case measure => simp [intOf]; omega
          have hki' : (k : Int) < (i : Int) := by omega
          have hkV : k < V.length := by omega
          have hkV' : (k : Int) < (V.length : Int) := by omega
          have Lk := Lc.below hbk
          obtain ⟨_, _, el', rdk⟩ := Lk.rdx
          cases el'
          obtain ⟨bl', ol', el', hclk⟩ := rdk.at hkV
          cases el'
          have hck := hclk k hkV
          obtain ⟨ak, ck, ek, -, -, rk, -⟩ := (Lk.fam.own k hkV).shape
          obtain ⟨Z, hZ⟩ : ∃ Z, Z = V.getD k [] := ⟨_, rfl⟩
          have eLZ : nsV V k = Z.length := by unfold nsV; rw [hZ]
          rw [ek, eLZ] at hck
          have rk : RdL .i64 wr ak Z := by rw [hZ]; exact rk
          have hZl : Z.length ≤ maxLen := by
            have h8 := rinv_len (unhide HI) k (by omega)
            rw [← hZ] at h8; unfold maxLen; omega
          have HZ := hide hZ
          clear hZ ek eLZ hclk rdk
          by_cases hb : bG V (X.take (X.length - 1)) k = true
          · have HB : Hid (bG V (X.take (X.length - 1)) (k + 1) = true) := by show _ = _; rw [bG_succ, hb]; rfl
            rw [hb] at hbg
            subst hbg
            clear hb
            go_wp2
            go_quiet (fail)
            go_wp2
            go_roundw
            case rel => exact ⟨k + 1, by go_num, by omega, (by rw [unhide HB]), bstep hbk (bdrew _ _)⟩
            case measure => simp [intOf]; omega
          · have hb' : bG V (X.take (X.length - 1)) k = false := by simpa using hb
            have HB : Hid (bG V (X.take (X.length - 1)) (k + 1) = decide (Z = X.take (X.length - 1))) := by show _ = _; rw [bG_succ, hb', unhide HZ]; rfl
            have hTl : (X.take (X.length - 1)).length = X.length - 1 := by rw [List.length_take]; omega
            have HSQ : ∀ q, Calls Try.prog 14 #[.slice ak Z.length ck, .slice ai (X.length - 1) ci] (wr.drewN q) fun e w'' => e = .returned (.bool (decide (Z = X.take (X.length - 1)))) ∧ ∃ m, w'' = wr.drewN m := fun q => by
              have h8 := same_dr ak ai ck ci Z (X.take (X.length - 1)) (wr.drewN q) (rk.below (bdrew wr q)) (((ric.below hbk).takeL (X.length - 1)).below (bdrew wr q)) hZl
              rw [hTl] at h8
              exact quiet_of_draws h8
            have HSQ' := hide HSQ
            have sl0 : 0 ≤ (X.length : Int) - 1 := by omega
            have sl1 : (X.length : Int) - 1 ≤ (ci : Int) := by omega
            have sl2 : ((X.length : Int) - 1).toNat = X.length - 1 := by omega
            rw [hb'] at hbg
            subst hbg
            clear hb hb' HSQ hTl
            go_wp2
            go_quiet ((go_at_call 14; exact unhide HSQ' _))
            go_wp2
            go_roundw
            case rel => exact ⟨k + 1, by go_num, by omega, (by rw [unhide HB]), bstep hbk (bdrew _ _)⟩
            case measure => simp [intOf]; omega

end Go.Proofs.Ytdlcbjbcehpooaa
