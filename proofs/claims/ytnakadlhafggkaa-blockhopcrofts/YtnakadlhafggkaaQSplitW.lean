/-
  The program's split, walked.
-/
import Derived.Test.YtnakadlhafggkaaQSplit
namespace Go.Proofs.Ytnakadlhafggkaa
open Go.RowKit Go.Maps

/-- What holds on the way: the classes below the next key are split. -/
structure SpI (w2 wx : World) (p : Pp) (gs0 gs cap : Nat) (s1 : St) (N : Nat → Nat) (l : List Int) (t : Nat) (s : St) (v : Value) (G : Nat → Nat → Int) : Prop where
  cut : Cut p.n s1 N l (nxK s1.K N t) s
  at_ : PtS wx p gs cap s
  own : OwnC wx w2.heap.size v (mixN (tab p.n s1.c) l (nxK s1.K N t)) G
  cuts : Cuts (tab p.n s1.c) l s1.K (nxK s1.K N t) G
  new : gs = gs0 ∨ w2.heap.size ≤ gs
  vgs : v.ownBlock ≠ some gs
  bx : Bx (p.has gs0) w2 wx

section
variable {w2 wx : World} {p : Pp} {gs0 gs cap : Nat} {s1 : St} {N : Nat → Nat} {l : List Int} {t : Nat} {s : St} {v : Value} {G : Nat → Nat → Int}
theorem gap_mix (I : PI p.n s1) (f : Fr p.n s1 N (fun x => (x : Int) ∈ l)) {j : Nat} (hj : j < s1.K) (h : N j = 0) : mixB (tab p.n s1.c) l (j : Int) = false := by
  cases e : mixB (tab p.n s1.c) l (j : Int)
  · rfl
  · have := ((f.mix I hj).1 e).1
    omega
theorem SpI.start (I : PI p.n s1) (f : Fr p.n s1 N (fun x => (x : Int) ∈ l)) (h : PtS w2 p gs0 cap s1) : SpI w2 w2 p gs0 gs0 cap s1 N l 0 s1 (.slice none 0 0) G := by
  have hm : ∀ j, 0 ≤ j → j < nxK s1.K N 0 → mixB (tab p.n s1.c) l (j : Int) = false := fun j _ hj => gap_mix I f (Nat.lt_of_lt_of_le hj (nxK_le _ _ _)) (ks_gap (.inl rfl) (Nat.zero_le _) hj)
  have hz := mixN_flat (C := tab p.n s1.c) (l := l) (Nat.zero_le _) hm
  have hz0 : mixN (tab p.n s1.c) l (nxK s1.K N 0) = 0 := hz
  refine ⟨(Cut.start I).jump (Nat.zero_le _) hm, h, by rw [hz0]; exact OwnC.nil _ _ _, fun j hj => by omega, .inl rfl, (by intro e; cases e), Bx.refl _ _⟩
theorem SpI.has (h : SpI w2 wx p gs0 gs cap s1 N l t s v G) {j : Nat} (hj : j < w2.heap.size) (hp : p.has gs j) : p.has gs0 j := by
  rcases hp with e | e | e | e | e
  · exact .inl e
  · exact .inr (.inl e)
  · exact .inr (.inr (.inl e))
  · exact .inr (.inr (.inr (.inl e)))
  · rcases h.new with g | g
    · exact .inr (.inr (.inr (.inr (e.trans g))))
    · omega
theorem gap_next (I : PI p.n s1) (f : Fr p.n s1 N (fun x => (x : Int) ∈ l)) (ht : t < (ksL s1.K N).length) : ∀ j, nxK s1.K N t + 1 ≤ j → j < nxK s1.K N (t + 1) → mixB (tab p.n s1.c) l (j : Int) = false := fun j h1 h2 =>
  gap_mix I f (Nat.lt_of_lt_of_le h2 (nxK_le _ _ _)) (ks_gap (t := t + 1) (.inr (by simp; omega)) (by omega) h2)
theorem SpI.no (I : PI p.n s1) (f : Fr p.n s1 N (fun x => (x : Int) ∈ l)) (h : SpI w2 wx p gs0 gs cap s1 N l t s v G) (ht : t < (ksL s1.K N).length) (hm : mixB (tab p.n s1.c) l ((nxK s1.K N t : Nat) : Int) = false) (q : Nat) : SpI w2 (wx.drewN q) p gs0 gs cap s1 N l (t + 1) s v G := by
  have hlt := nxK_lt ht
  have g := gap_next I f ht
  have e := mixN_flat (C := tab p.n s1.c) (l := l) (k := nxK s1.K N t + 1) (by omega) g
  rw [mixN_no hm] at e
  exact ⟨(h.cut.no hm).jump (by omega) g, PtAt.draws h.at_ q, by rw [e]; exact h.own.keep fun _ _ => rfl, h.cuts.jump (by omega) e, h.new, h.vgs, h.bx.draws q⟩
theorem SpI.low (h : SpI w2 wx p gs0 gs cap s1 N l t s v G) (lo : ∀ k, p.has gs0 k → k < w2.heap.size) {b : Nat} (e : v.ownBlock = some b) : ¬ p.has gs b := by
  have hb := (h.own.lt e).1
  rintro (g | g | g | g | g)
  · have := lo b (.inl g); omega
  · have := lo b (.inr (.inl g)); omega
  · have := lo b (.inr (.inr (.inl g))); omega
  · have := lo b (.inr (.inr (.inr (.inl g)))); omega
  · exact h.vgs (g ▸ e)
theorem SpI.yes {w3 w4 : World} {gs' cap' q : Nat} {v' : Value} {o : Obj} (I : PI p.n s1) (f : Fr p.n s1 N (fun x => (x : Int) ∈ l)) (h : SpI w2 wx p gs0 gs cap s1 N l t s v G) (ht : t < (ksL s1.K N).length) (hm : mixB (tab p.n s1.c) l ((nxK s1.K N t : Nat) : Int) = true)
    (lo : ∀ k, p.has gs0 k → k < w2.heap.size) (hc : CtPost (wx.drewN q) p gs (s.cut (nxK s1.K N t) (N (nxK s1.K N t))) w3 gs' cap')
    (ho : OwnC w4 w2.heap.size v' (mixN (tab p.n s1.c) l (nxK s1.K N t) + 1) (addP (mixN (tab p.n s1.c) l (nxK s1.K N t)) ((nxK s1.K N t : Nat) : Int) ((s.K : Nat) : Int) G)) (hg : (w3.alloc o).grownBy w4 v.ownBlock) (hat : ∀ b, v'.ownBlock = some b → v.ownBlock = some b ∨ b = w3.heap.size + 1) :
    SpI w2 w4 p gs0 gs' cap' s1 N l (t + 1) (s.cut (nxK s1.K N t) (N (nxK s1.K N t))) v' (addP (mixN (tab p.n s1.c) l (nxK s1.K N t)) ((nxK s1.K N t : Nat) : Int) ((s.K : Nat) : Int) G) := by
  obtain ⟨ek, hk, h0⟩ := ks_at ht
  have hlt := nxK_lt ht
  have g := gap_next I f ht
  have e := mixN_flat (C := tab p.n s1.c) (l := l) (k := nxK s1.K N t + 1) (by omega) g
  rw [mixN_yes hm] at e
  have hsz : wx.heap.size ≤ w3.heap.size := hc.bx.size
  have hbx : w2.heap.size ≤ wx.heap.size := h.bx.size
  have vlt : ∀ b, v.ownBlock = some b → b < wx.heap.size := fun b e => (h.own.lt e).2
  have vno : ∀ b, v.ownBlock = some b → ¬ p.has gs' b := fun b e hp => by
    rcases hp with d | d | d | d | d
    · exact h.low lo e (.inl d)
    · exact h.low lo e (.inr (.inl d))
    · exact h.low lo e (.inr (.inr (.inl d)))
    · exact h.low lo e (.inr (.inr (.inr (.inl d))))
    · rcases hc.new with d2 | d2
      · exact h.low lo e (.inr (.inr (.inr (.inr (d.trans d2)))))
      · have := vlt b e
        have d3 : wx.heap.size ≤ gs' := d2
        omega
  have K4 : ∀ j, j < w3.heap.size → v.ownBlock ≠ some j → w4.heap[j]? = w3.heap[j]? := fun j hj hne => (hg.block j (by simp; omega) (fun e => hne e.symm)).trans (Below.heap_alloc _ _ _ hj)
  have hK := h.cut.K
  have bx3 : Bx (p.has gs0) w2 w3 := (h.bx.draws q).trans hc.bx fun j hj hp => h.has hj hp
  refine ⟨(h.cut.yes I f hk hm).jump (by omega) g, PtAt.keep hc.at_ fun k hk => K4 k (PtAt.lt hc.at_ hk) (fun e => vno k e hk), by rw [e]; exact ho, ?_, ?_, fun e5 => ?_, ?_⟩
  · have := (h.cuts.yes hm).jump (k' := nxK s1.K N (t + 1)) (by omega) (by rw [e, mixN_yes hm])
    rw [← hK] at this
    exact this
  · rcases hc.new with d | d
    · rcases h.new with d2 | d2
      · exact .inl (d.trans d2)
      · exact .inr (by omega)
    · have d3 : wx.heap.size ≤ gs' := d
      exact .inr (by omega)
  · rcases hat _ e5 with d | d
    · exact vno _ d (.inr (.inr (.inr (.inr rfl))))
    · have := PtAt.lt hc.at_ (k := gs') (.inr (.inr (.inr (.inr rfl))))
      omega
  · exact (bx3.alloc o).grown hg (fun k e hk => by have := (h.own.lt e).1; omega)
end

set_option maxRecDepth 100000 in
set_option maxHeartbeats 4000000 in
theorem split_any (p : Pp) (gs cap : Nat) (s0 : St) (a : Option Addr) (c : Nat) (l : List Int) (w : World) (h : PtS w p gs cap s0) (I0 : PI p.n s0) (hn : p.n ≤ 65536) (hl : l.length ≤ 1000000) (hr : RdL .i64 w a l) (ha : ∀ x, a = some x → l.length ≠ 0 → ¬ p.has gs x.block) (hx : ∀ x ∈ l, 0 ≤ x ∧ x < (p.n : Int)) :
    Calls Try.prog 31 #[.pointer (some ⟨p.b, 0, none⟩), .slice a l.length c] w fun e w' => ∃ gs' cap' s' v G, e = .returned v ∧ SpPost w p gs s0 l w' gs' cap' s' v G := by
  have MV := move_any p gs cap s0 a c l w h I0 hn (by unfold maxLen; omega) hr ha hx
  have HLO := hide (fun k (hk : p.has gs k) => PtAt.lt h hk)
  clear h I0 hr ha hx
  go_enter Try.func31, Try.ntmps31
  go_wp2_with fail
  refine MV.mono ?_
  rintro e w1 ⟨g, s1, N, rfl, hnew, hat1, hpi1, hlk, hfr, hmap, hbx1⟩
  clear MV
  have hKn := hpi1.Kn
  go_wp2_with fail
  refine (keys_any (some g) w1).mono ?_
  rintro e w1' ⟨rfl, rfl⟩
  go_wp2_with fail
  refine (sortedKeys_any g l.length s1.K N w1 hmap hfr.up hl).mono ?_
  rintro e w2 ⟨vk, rfl, hvk, hb2⟩
  have hb12 : Below w1.heap.size w1 w2 := (ballo w1 _).trans (hb2.mono (by omega))
  have hgl := hmap.lt
  have hz1 := hbx1.size
  have hz2 := hb12.size
  have I1 : SpI w2 w2 p gs gs cap s1 N l 0 s1 (.slice none 0 0) (fun _ _ => 0) := SpI.start hpi1 hfr (PtAt.below hat1 hb12)
  have lo2 : ∀ k, p.has gs k → k < w2.heap.size := fun k hk => by have := unhide HLO k hk; omega
  have hm2 : CMap w2 g l.length N := hmap.keep (hb12.block g hgl)
  have hg2 : g < w2.heap.size := by omega
  have gno : ¬ p.has gs g := fun hk => by have := unhide HLO g hk; omega
  have kno : ∀ b, vk.ownBlock = some b → ¬ p.has gs b := fun b e hk => by have := unhide HLO b hk; have := (hvk.lt e).1; omega
  obtain ⟨ak, ck, rfl, -, hlc, hcm, -, -⟩ := hvk.shape
  have hkl := ksL_len s1.K N
  have HB2 := hide (hbx1.trans (Bx.of (X := p.has gs) hb12) (fun _ _ h => h))
  have HI1 := hide I1
  have HPI := hide hpi1
  have HFR := hide hfr
  have HLK := hide hlk
  have HM2 := hide hm2
  have HVK := hide hvk
  clear hat1 hpi1 hlk hfr hmap hbx1 hvk hb2 hb12 hgl hz1 hz2 I1 hm2 hnew
  go_wp2
  go_loopw [5, 17] (fun v i wx => ∃ (t gs' cap' : Nat) (s : St) (G : Nat → Nat → Int), t ≤ (ksL s1.K N).length ∧ i = .int .i64 t ∧ SpI w2 wx p gs gs' cap' s1 N l t s v G) (fun _ i _ => (ksL s1.K N).length - (intOf i).toNat)
  case atStart => exact ⟨0, gs, cap, s1, _, Nat.zero_le _, rfl, unhide HI1⟩
  case round =>
    obtain ⟨t, gs', cap', s, G, ht, rfl, hinv⟩ := hrel
    clear HI1
    by_cases hlt : t < (ksL s1.K N).length
    · obtain ⟨ek, hk, hN0⟩ := ks_at hlt
      have hk2 := hinv.cut.b (nxK s1.K N t) (Nat.le_refl _) hk
      have hk3 := hinv.cut.e (nxK s1.K N t) (Nat.le_refl _) hk
      have hsK : s.K = s1.K + mixN (tab p.n s1.c) l (nxK s1.K N t) := hinv.cut.K
      have hspn := hinv.cut.pi.sp (nxK s1.K N t) (by omega)
      have hsn := hinv.cut.pi.Kn
      have hcnt := mixN_le (tab p.n s1.c) l (nxK s1.K N t)
      obtain ⟨bk, ok, rfl, hck⟩ := ((unhide HVK).bx hinv.bx kno).shape.elim fun a h => h.elim fun c h => (by cases h.1; exact h.2.2.2.2.1.at hlt)
      have hcell := hck t hlt
      rw [ek] at hcell
      clear hck
      have hml : CMap wr g l.length N := (unhide HM2).keep (hinv.bx.block g hg2 gno)
      have hlook := hml.look (c := nxK s1.K N t) (by omega)
      have hat := hinv.at_
      have SP := span_any hat (c := nxK s1.K N t) (x := s.b (nxK s1.K N t)) (y := s.e (nxK s1.K N t)) (by omega) rfl rfl hspn.1 hspn.2
      have HINV := hide hinv
      have hfle := (unhide HFR).le _ hk
      obtain ⟨av, cv, rfl⟩ := hinv.own.shape
      have hmix := (unhide HFR).mix (unhide HPI) hk
      clear hinv hat hml
      have HKE := hide ek
      clear ek
      by_cases hm : s.b (nxK s1.K N t) + N (nxK s1.K N t) < s.e (nxK s1.K N t)
      · have hmx := hmix.2 ⟨hN0, by omega⟩
        have HMX := hide hmx
        have hm2 : ((N (nxK s1.K N t) : Nat) : Int) < ((s.e (nxK s1.K N t) - s.b (nxK s1.K N t) : Nat) : Int) := by omega
        have CT : ∀ q, Calls Try.prog 47 #[.pointer (some ⟨p.b, 0, none⟩), .int .i64 ((nxK s1.K N t : Nat) : Int), .int .i64 ((N (nxK s1.K N t) : Nat) : Int)] (wr.drewN q) fun e w' => ∃ gs3 cap3, e = .returned (.int .i64 (s.K : Nat)) ∧ CtPost (wr.drewN q) p gs' (s.cut (nxK s1.K N t) (N (nxK s1.K N t))) w' gs3 cap3 := fun q =>
          cut_any p gs' cap' s (nxK s1.K N t) (N (nxK s1.K N t)) (wr.drewN q) (PtAt.draws (unhide HINV).at_ q) (unhide HINV).cut.pi hn (by omega) hN0 hm
        have HCT := hide CT
        have HSP := hide SP
        clear hmix hmx CT SP hm hk2 hk3 hspn hfle
        generalize hkk : nxK s1.K N t = kk at *
        generalize hNN : N kk = NN at *
        have HKK := hide hkk
        have HNN := hide hNN
        clear hkk hNN
        go_wp2_with fail
        refine (unhide HSP).mono ?_
        rintro e wq ⟨rfl, q, rfl⟩
        clear HSP
        go_wp2_with fail
        refine ((unhide HCT) q).mono ?_
        rintro e w3 ⟨gs3, cap3, rfl, hct⟩
        have hz3 : wr.heap.size ≤ w3.heap.size := hct.bx.size
        have hz2 : w2.heap.size ≤ wr.heap.size := (unhide HINV).bx.size
        have O3 : OwnC (w3.alloc (.cells #[.int .i64 ((kk : Nat) : Int), .int .i64 ((s.K : Nat) : Int)] 66)) w2.heap.size (.slice av (mixN (tab p.n s1.c) l kk) cv) (mixN (tab p.n s1.c) l kk) G := by
          have h1 := (unhide HINV).own
          rw [unhide HKK] at h1
          refine h1.keep fun b e => ?_
          have hb := (h1.lt e).2
          rw [Below.heap_alloc _ _ _ (by omega)]
          exact hct.bx.block b hb ((unhide HINV).low lo2 e)
        have C0 : (w3.alloc (.cells #[.int .i64 ((kk : Nat) : Int), .int .i64 ((s.K : Nat) : Int)] 66)).cell? ⟨w3.heap.size, 0, none⟩ = some (.int .i64 ((kk : Nat) : Int)) := by simp
        have C1 : (w3.alloc (.cells #[.int .i64 ((kk : Nat) : Int), .int .i64 ((s.K : Nat) : Int)] 66)).cell? ⟨w3.heap.size, 1, none⟩ = some (.int .i64 ((s.K : Nat) : Int)) := by simp
        have HO3 := hide O3
        have HC0 := hide C0
        have HC1 := hide C1
        have HCT3 := hide hct
        have hbig : mixN (tab p.n s1.c) l kk ≤ 100000 := by omega
        have hbs3 : w2.heap.size ≤ (w3.alloc (.cells #[.int .i64 ((kk : Nat) : Int), .int .i64 ((s.K : Nat) : Int)] 66)).heap.size := by simp; omega
        have HBS3 := hide hbs3
        clear O3 C0 C1 hct HCT hbs3
        generalize hcn : mixN (tab p.n s1.c) l kk = cnt at *
        have HCN := hide hcn
        clear hcn hsK
        go_wp2_with (at_builtin; refine wplC_push rfl (.tmp 30) (.tmp 37) rfl w2.heap.size _ cnt G rfl (unhide HO3) w3.heap.size 1 ((kk : Nat) : Int) ((s.K : Nat) : Int) rfl (unhide HC0) (unhide HC1) hbig (unhide HBS3) ?_; intro v4 w4 ho4 hg4 hat4; obtain ⟨a4, c4, rfl⟩ := ho4.shape)
        go_roundw
        case rel =>
          have hg4' : (w3.alloc (.cells #[.int .i64 ((kk : Nat) : Int), .int .i64 ((s.K : Nat) : Int)] 66)).grownBy w4 (Value.slice av cnt cv).ownBlock := hg4
          have hat4' : ∀ b, (Value.slice a4 (cnt + 1) c4).ownBlock = some b → (Value.slice av cnt cv).ownBlock = some b ∨ b = w3.heap.size + 1 := fun b e => (hat4 b e).imp id (fun e => by simpa using e)
          have hY := SpI.yes (w4 := w4) (v' := .slice a4 (cnt + 1) c4) (q := q) (unhide HPI) (unhide HFR) (unhide HINV) hlt (by rw [unhide HKK]; exact unhide HMX) lo2 (by rw [unhide HKK, unhide HNN]; exact unhide HCT3) (by rw [unhide HKK, unhide HCN]; exact ho4) hg4' hat4'
          exact ⟨t + 1, gs3, cap3, _, _, by omega, by go_num, hY⟩
        case measure => simp [intOf]; omega
      · have hmx : mixB (tab p.n s1.c) l ((nxK s1.K N t : Nat) : Int) = false := by
          cases e : mixB (tab p.n s1.c) l ((nxK s1.K N t : Nat) : Int)
          · rfl
          · have := (hmix.1 e).2
            omega
        have HMX := hide hmx
        have hm2 : ((s.e (nxK s1.K N t) - s.b (nxK s1.K N t) : Nat) : Int) ≤ ((N (nxK s1.K N t) : Nat) : Int) := by omega
        have HSP := hide SP
        clear hmix hmx SP hm hk2 hk3 hspn hfle
        generalize hkk : nxK s1.K N t = kk at *
        generalize hNN : N kk = NN at *
        have HKK := hide hkk
        clear hkk hNN
        go_wp2_with fail
        refine (unhide HSP).mono ?_
        rintro e wq ⟨rfl, q, rfl⟩
        clear HSP
        go_wp2
        go_roundw
        case rel =>
          have hY := SpI.no (unhide HPI) (unhide HFR) (unhide HINV) hlt (by rw [unhide HKK]; exact unhide HMX) q
          exact ⟨t + 1, gs', cap', s, G, by omega, by go_num, hY⟩
        case measure => simp [intOf]; omega
    · obtain rfl : t = (ksL s1.K N).length := by omega
      have hc := hinv.cut
      have HINV := hide hinv
      have HC := hide hc
      clear hinv hc
      go_wp2
      go_ret
      have hend := nxK_end s1.K N
      have hi := unhide HINV
      have hc := unhide HC
      have hown := hi.own
      have hcuts := hi.cuts
      rw [hend] at hc hown hcuts
      have e1 : s1.K = s0.K := (unhide HLK).K
      have e2 : s1.c = s0.c := (unhide HLK).c
      have hz : w.heap.size ≤ w2.heap.size := (unhide HB2).size
      have hcK := hc.K
      have hcf := hc.fin
      rw [e1, e2] at hown hcuts hcK hcf
      refine ⟨gs', cap', s, _, G, rfl, hi.at_, hc.pi, hcK, hcf, hown.mono hz, hcuts, ?_, hi.vgs, ?_, fun x hx => ?_⟩
      · rcases hi.new with d | d
        · exact .inl d
        · exact .inr (by omega)
      · exact (unhide HB2).trans hi.bx (fun _ _ h => h)
      · have := (unhide HPI).inn x hx
        rw [(unhide HLK).c, (unhide HLK).b, (unhide HLK).e] at this
        rw [hc.p]; exact this
end Go.Proofs.Ytnakadlhafggkaa
