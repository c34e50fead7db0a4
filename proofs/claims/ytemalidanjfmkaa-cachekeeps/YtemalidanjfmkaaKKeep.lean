/-
  The law CacheKeeps, walked: it returns true, whatever comes in.
-/
import Derived.Test.YtemalidanjfmkaaNLive
import Derived.Test.YtemalidanjfmkaaNWds
import Derived.Test.YtemalidanjfmkaaKMuch
import Derived.Test.YtemalidanjfmkaaLsts
namespace Go.Proofs.Ytemalidanjfmkaa
open Go.RowKit

theorem eAct : EltG 40 22 (.agg #[.int .i64 0, .slice none 0 0, .slice none 0 0]) 3 56 paC := ⟨Try.underlying22, by kernel_rfl, rfl, by decide, fun _ => rfl, fun x u hu => by
  simp [paC] at hu
  rcases hu with rfl | rfl | rfl <;> rfl⟩
def pa0 : Pa := ⟨⟨0, [], []⟩, none, 0, none, 0⟩
theorem OwnG.bx {α : Type} {e : TypeId} {k : Nat} {enc : α → List Value} {w w' : World} {B : Nat} {v : Value} {L : List α} {X : Nat → Prop} (h : OwnG e k enc w B v L) (hb : Bx X w w') (hx : ∀ b, v.ownBlock = some b → ¬ X b) : OwnG e k enc w' B v L :=
  h.keep fun b e => hb.block b (h.lt e).2 (hx b e)
theorem LLs.bx {w w' : World} {B : Nat} {v : Value} {vs : Nat → Value} {V : List (List Int)} {X : Nat → Prop} (h : LLs w B v vs V) (hb : Bx X w w') (hX : ∀ k, X k → k < B) : LLs w' B v vs V :=
  ⟨h.out.keep fun b e => hb.block b (h.out.lt e).2 (fun x => by have := hX b x; have := (h.out.lt e).1; omega), h.fam.keep fun i hi b e => hb.block b ((h.fam.own i hi).lt e).2 (fun x => by have := hX b x; have := ((h.fam.own i hi).lt e).1; omega), h.ap⟩
/-- Two slices of the same lists. -/
theorem lls_same {w : World} {B B' : Nat} {v v' : Value} {us us' : Nat → Value} {V : List (List Int)} (h : LLs w B v us V) (h' : LLs w B' v' us' V) (hN : V.length ≤ maxLen) (hV : ∀ u ∈ V, u.length ≤ maxLen) :
    Calls Try.prog 25 #[v, v'] w fun e w' => e = .returned (.bool true) ∧ Below w.heap.size w w' := by
  obtain ⟨a, c, rfl, -, -, r⟩ := h.out.shape
  obtain ⟨a', c', rfl, -, -, r'⟩ := h'.out.shape
  refine lists_any a a' V.length c c' us us' (nsV V) (fsV V) w r r' hN fun i hi => ?_
  obtain ⟨b, d, e, -, -, q, -⟩ := (h.fam.own i hi).shape
  obtain ⟨b', d', e', -, -, q', -⟩ := (h'.fam.own i hi).shape
  exact ⟨b, d, b', d', e, q, e', q', hV _ (by rw [List.getD_eq_getElem?_getD, List.getElem?_eq_getElem hi]; exact List.getElem_mem hi)⟩
theorem get_told {c : Cs} {u y : List Int} (H : Int) (h : findV c u = some y) : getV { c with hits := H } u = { c with hits := H + 1 } := by
  have e : findV { c with hits := H } u = some y := h
  unfold getV; rw [e]
theorem find_hits {c : Cs} {u y : List Int} (H : Int) (h : findV c u = some y) : findV { c with hits := H } u = some y := h
/-- What holds ahead of each round. -/
structure Ke (B : Nat) (w0 wr : World) (l : List Pa) (most : Int) (b g cap : Nat) (v : Value) (c : Cs) (R : List En) (K : List Pa) (t : Nat) : Prop where
  co : Co B wr b g cap c R
  kp : OwnG 40 3 paC wr B v K
  ap : ∀ k, v.ownBlock = some k → k ≠ b ∧ k ≠ g
  tl : ∀ p ∈ K, p ∈ l ∧ findV c p.an.out = some p.an.word
  ln : K.length ≤ t
  ms : c.miss = 0
  h0 : 0 ≤ c.hits
  h1 : c.hits ≤ 60 * (t : Int)
  mo : c.most = most
  lo : Below B w0 wr

set_option maxRecDepth 100000 in
set_option maxHeartbeats 8000000 in
theorem cacheKeeps_walk (kind k o most : Int) (al : Option Addr) (cl : Nat) (l : List Pa) (w : World) (_ : Fits kind) (_ : Fits k) (_ : Fits o) (_ : Fits most) (h : ArgPs w al cl l) :
    Calls Try.prog 5 #[.int .i64 kind, .int .i64 k, .int .i64 o, .int .i64 most, .slice al l.length cl] w fun e w' => e = .returned (.bool true) ∧ Below w.heap.size w w' := by
  have hmu := much_any al cl l w h.rd
  have hnw := new_any kind k o most w
  have HH := hide h
  clear h
  go_enter Try.func5, Try.ntmps5
  go_wp2_with fail
  refine hmu.mono ?_
  rintro e w1 ⟨mb, rfl, hmod, hw1⟩
  subst hw1
  clear hmu
  cases mb with
  | true =>
    clear hmod hnw
    go_wp2_with (go_at_call 10; refine (live_any _).mono ?_; rintro e w9 ⟨rfl, hb9⟩)
    go_ret
    exact ⟨rfl, hb9⟩
  | false =>
  have HMOD := hide (hmod rfl)
  clear hmod
  go_wp2_with fail
  refine hnw.mono ?_
  rintro e w3 ⟨hb3, hor⟩
  clear hnw
  rcases hor with ⟨hne, rfl⟩ | ⟨hne, b, g, cap, R, rfl, co3, hbb, hgg⟩
  · have t0 : (newE kind k o most != 0) = true := by simp [hne]
    generalize newE kind k o most = E at *
    clear hne
    go_wp2_with (first | (go_at_call 13; refine (num_any _ _).mono ?_; rintro e w' ⟨rfl, hw'⟩; subst w') | (go_at_call 10; refine (live_any _).mono ?_; rintro e w9 ⟨rfl, hb9⟩))
    go_ret
    exact ⟨rfl, bstep hb3 hb9⟩
  have HK0 : Hid (Ke w1.heap.size w1 w3 l most b g cap (.slice none 0 0) (newV kind k o most) R [] 0) := ⟨co3, OwnG.nil _ _, (fun k hk => by cases hk), (fun p hp => by cases hp), Nat.le_refl _, rfl, Int.le_refl _, Int.le_refl _, rfl, hb3⟩
  have hl60 := (unhide HMOD).1
  clear co3 hne hb3 hgg
  go_wp2_with (first | (go_at_call 13; refine (num_any _ _).mono ?_; rintro e w' ⟨rfl, hw'⟩; subst w'))
  go_loopw [13, 14] (fun v x wr => ∃ (t g cap : Nat) (c : Cs) (R : List En) (K : List Pa), x = .int .i64 t ∧ t ≤ l.length ∧ Hid (Ke w1.heap.size w1 wr l most b g cap v c R K t)) (fun _ x _ => l.length - (intOf x).toNat)
  case atStart => exact ⟨0, g, cap, _, R, [], rfl, Nat.zero_le _, HK0⟩
  case round =>
    obtain ⟨t, g, cap, c, R, K, rfl, ht, HK⟩ := hrel
    clear HK0
    obtain ⟨av, cv, rfl⟩ := (unhide HK).kp.shape
    by_cases hlt : t < l.length
    · have hlt' : (t : Int) < (l.length : Int) := by omega
      have hno := nodes_any (unhide HK).co
      have hwd := words_any (unhide HK).co
      go_wp2_with fail
      refine hno.mono ?_
      rintro e w4 ⟨rfl, hw4⟩
      subst hw4
      go_wp2_with fail
      refine hwd.mono ?_
      rintro e w5 ⟨vw, us, L, rfl, hWd, hLL, hb5, hL1, hL2⟩
      obtain ⟨aw, cw, rfl, -⟩ := hLL.rdx
      have HWd := hide hWd
      have HLL := hide hLL
      have HL1 := hide hL1
      have HL2 := hide hL2
      have HB5 := hide hb5
      have hlo5 : Below w1.heap.size w1 w5 := bstep (unhide HK).lo hb5
      have HLO5 := hide hlo5
      obtain ⟨lb, loff, rfl, hlc⟩ := ((unhide HH).rd.low hlo5).at hlt
      obtain ⟨-, c1, c2⟩ := hlc t hlt
      have hmem : l[t] ∈ l := List.getElem_mem hlt
      have HP : Hid (l[t] ∈ l) := hmem
      have HPA := hide ((unhide HH).each _ hmem)
      have HPM := hide ((unhide HMOD).2 _ hmem)
      have HLT : Hid (∀ wx, Below w1.heap.size w1 wx → wx.cell? ⟨lb, loff + t * 3, none⟩ = some (.int .i64 l[t].an.kind) ∧ wx.cell? ⟨lb, loff + t * 3 + 1, none⟩ = some (.slice l[t].a1 l[t].an.out.length l[t].c1) ∧ wx.cell? ⟨lb, loff + t * 3 + 2, none⟩ = some (.slice l[t].a2 l[t].an.word.length l[t].c2)) := fun wx hx => by
        obtain ⟨lb', loff', e', hc'⟩ := ((unhide HH).rd.low hx).at hlt
        cases e'
        exact hc' t hlt
      generalize l[t] = p at *
      have hN0 : 1 ≤ c.bg.length := by have := (unhide HK).co.len.1; have := (unhide HK).co.i.tr.len; omega
      have hNm : (c.bg.length : Int) ≤ most := by have := (unhide HK).co.i.pc.room; have := (unhide HK).mo; omega
      have hmm : most ≤ 1048576 := by have := (unhide HK).co.i.pc.m1; have := (unhide HK).mo; omega
      have co5 := (unhide HK).co.below hb5
      have hpu := fun (wx : World) (hx : Below w5.heap.size w5 wx) => put_gen p.a1 p.c1 p.an.out p.a2 p.c2 p.an.word (co5.below hx) ((unhide HPA).out.rd.below (bstep hlo5 hx)) ((unhide HPA).word.rd.below (bstep hlo5 hx)) (by have := (unhide HPM).2.1; unfold maxLen; omega) (by have := (unhide HPM).2.2; unfold maxLen; omega) (fun hz x ex => by
        obtain ⟨b', off', e', hc'⟩ := (unhide HPA).out.rd.at (i := 0) (by omega)
        cases ex.symm.trans e'
        have q1 : b' < w1.heap.size := World.block_lt_of_cell? w1 _ (hc' 0 (by omega))
        have q2 := (unhide HK).co.bB
        have q3 := (unhide HK).co.glt.1
        have q4 := (bstep hlo5 hx).size
        refine ⟨?_, ?_, ?_⟩
        · show b' < _; omega
        · show b' ≠ _; omega
        · show b' ≠ _; omega) (bstep hlo5 hx).size
      have HPU := hide hpu
      have hbN : (c.bg.length : Nat) = c.bg.length := rfl
      generalize hNN : c.bg.length = N0 at *
      clear hno hwd hWd hLL hL1 hL2 hlc hmem co5 hpu hb5 hlo5 hbN
      go_upto_region 12 with fail
      go_region_with (go_at_call 15; refine (unhide HPU _ (bdrew1 _)).mono ?_; rintro e w6 ⟨rfl, g6, cap6, R6, co6, bx6, hg6⟩)
      all_goals
        have bx6' : Bx (fun j => j = b ∨ j = g) w5 w6 := Bx.trans (Bx.of (bdrew1 w5)) bx6 (fun _ _ h => h)
        have HBX := hide bx6'
        have HCO6 := hide co6
        have hbB : w1.heap.size ≤ b := hbb
        have hgB : w1.heap.size ≤ g := (unhide HK).co.glt.1
        have HLO6 : Hid (Below w1.heap.size w1 w6) := (unhide HLO5).trans (bx6'.below (fun k hk => by rcases hk with q | q <;> omega) (unhide HLO5).size)
        have HKP6 : Hid (OwnG 40 3 paC w6 w1.heap.size (.slice av K.length cv) K) := ((unhide HK).kp.below (unhide HB5)).bx bx6' fun k hk q => by
          have := (unhide HK).ap k hk
          rcases q with q | q
          · exact this.1 q
          · exact this.2 q
        have HAP6 : Hid (∀ k, (Value.slice av K.length cv).ownBlock = some k → k ≠ b ∧ k ≠ g6) := fun k hk => by
          have h1 := (unhide HK).ap k hk
          have h2 := ((unhide HK).kp.lt hk).2
          have h3 := (unhide HB5).size
          refine ⟨h1.1, ?_⟩
          rcases hg6 with q | q
          · rw [q]; exact h1.2
          · have q' : w5.heap.size ≤ g6 := q
            omega
        have HLL6 : Hid (LLs w6 w4.heap.size (.slice aw L.length cw) us L) := (unhide HLL).bx bx6' fun k hk => by
          have h1 := (unhide HK).co.blt
          have h2 := (unhide HK).co.glt.2
          rcases hk with q | q <;> omega
        clear bx6 hg6 co6 bx6'
        by_cases hz : (putV c p.an.out p.an.word).2 = 0
        · have hok := put_ok hz
          have HT6 : Hid (∀ q ∈ K ++ [p], q ∈ l ∧ findV (putV c p.an.out p.an.word).1 q.an.out = some q.an.word) := fun q hq => by
            rcases List.mem_append.1 hq with hq | hq
            · have := (unhide HK).tl q hq
              exact ⟨this.1, find_keep (unhide HK).co.i.pc.wl hz this.2⟩
            · obtain rfl : q = p := by simpa using hq
              exact ⟨unhide HP, find_put (unhide HK).co.i.pc.wl hz⟩
          have hNd : N0 ≤ (putV c p.an.out p.an.word).1.bg.length ∧ (((putV c p.an.out p.an.word).1.bg.length : Nat) : Int) ≤ most := by
            rw [put_bg hz]
            obtain ⟨gg, hgg⟩ := frs_pre p.an.out (p.an.out.length + 1) c.bg
            refine ⟨by unfold frsV; rw [hgg, List.length_append]; omega, ?_⟩
            have := hok.2.2.2.2
            have := (unhide HK).mo
            omega
          have HMO6 : Hid ((putV c p.an.out p.an.word).1.most = most ∧ (putV c p.an.out p.an.word).1.hits = c.hits ∧ (putV c p.an.out p.an.word).1.miss = c.miss) := by
            refine ⟨?_, ?_, ?_⟩
            · rw [hok.1]; exact (unhide HK).mo
            · rw [hok.1]
            · rw [hok.1]
          rw [hz]
          generalize (putV c p.an.out p.an.word).1 = c6 at *
          have hKl : K.length ≤ 60 := by have := (unhide HK).ln; omega
          have c0 := (unhide HLT w6 (unhide HLO6)).1
          have c1 := (unhide HLT w6 (unhide HLO6)).2.1
          have c2 := (unhide HLT w6 (unhide HLO6)).2.2
          have hB6 := (unhide HLO6).size
          clear hok hz HLL6
          go_wp2_with (first | (go_at_call 13; refine (num_any _ _).mono ?_; rintro e w' ⟨rfl, hw'⟩; subst w') | (at_builtin; refine wplG_push eAct rfl (.tmp 70) (.tmp 75) rfl w1.heap.size _ K rfl ((unhide HKP6).below (ballo _ _)) w6.heap.size 1 p rfl (pa_lit _ _ _) (by omega) (by unfold maxLen; omega) (by simp; omega) ?_; intro v7 w7 ho7 hg7 hv7; obtain ⟨a7, d7, rfl⟩ := ho7.shape) | fail)
          have hA7 : ∀ k, k < w6.heap.size → (Value.slice av K.length cv).ownBlock ≠ some k → w7.heap[k]? = w6.heap[k]? := fun k h1 h2 => by
            rw [hg7.block k (by simp; omega) (fun e => h2 e.symm), Below.heap_alloc _ _ _ h1]
          have HCO7 : Hid (Co w1.heap.size w7 b g6 cap6 c6 R6) := (unhide HCO6).keep (hA7 _ (unhide HCO6).blt fun e => (unhide HAP6 _ e).1 rfl) (hA7 _ (unhide HCO6).glt.2 fun e => (unhide HAP6 _ e).2 rfl)
          have HAP7 : Hid (∀ k, (Value.slice a7 (K ++ [p]).length d7).ownBlock = some k → k ≠ b ∧ k ≠ g6) := fun k hk => by
            rcases hv7 k hk with q | q
            · exact unhide HAP6 k q
            · have h1 := (unhide HCO6).blt
              have h2 := (unhide HCO6).glt.2
              simp at q
              omega
          have HLO7 : Hid (Below w1.heap.size w1 w7) := ((unhide HLO6).alloc (unhide HLO6).size _).grown hg7 (by simp; omega) fun k hk => ((unhide HKP6).lt hk).1
          have HKP7 := hide ho7
          have HNL : Hid ((K ++ [p]).length = K.length + 1) := by show _ = _; simp
          have HLN : Hid (K.length + 1 ≤ t + 1) := by show _ ≤ _; have := (unhide HK).ln; omega
          have HHB : Hid (0 ≤ c6.hits ∧ c6.hits ≤ 60 * (t : Int) ∧ c6.miss = 0 ∧ c6.most = most) := by
            have := unhide HMO6
            exact ⟨by rw [this.2.1]; exact (unhide HK).h0, by rw [this.2.1]; exact (unhide HK).h1, by rw [this.2.2]; exact (unhide HK).ms, this.1⟩
          clear ho7 hg7 hv7 hA7 HKP6 HAP6 HCO6 HLO6 HMO6 c0 c1 c2 HLT
          have hno := nodes_any (unhide HCO7)
          have n1 : ¬ ((c6.bg.length : Nat) : Int) < (N0 : Int) := by omega
          have n2 : ¬ ((c6.bg.length : Nat) : Int) > most := by omega
          have n3 : ¬ ((c6.bg.length : Nat) : Int) < 1 := by omega
          have hNL60 : (K.length + 1) ≤ 60 := by have := unhide HLN; omega
          generalize hCN : c6.bg.length = CN at hno n1 n2 n3
          have m1 : decide ((CN : Int) < (N0 : Int)) = false := decide_eq_false n1
          have m1' : decide (CN < N0) = false := decide_eq_false (by omega)
          have m2 : decide ((CN : Int) > most) = false := decide_eq_false n2
          have m2' : decide (most < (CN : Int)) = false := decide_eq_false n2
          have m3 : decide ((CN : Int) < 1) = false := decide_eq_false n3
          have m3' : decide (CN < 1) = false := decide_eq_false (by omega)
          have m3'' : decide (CN = 0) = false := decide_eq_false (by omega)
          clear hNd hCN
          refine hno.mono ?_
          rintro e w' ⟨rfl, hw'⟩
          subst w'
          go_wp2_with (first | (go_at_call 21; refine hno.mono ?_; rintro e w' ⟨rfl, hw'⟩; subst w'))
          go_loopw [18] (fun x wr => ∃ (j : Nat) (H : Int), x = .int .i64 j ∧ j ≤ (K.length + 1) ∧ Hid (Co w1.heap.size wr b g6 cap6 { c6 with hits := H } R6) ∧ Hid (OwnG 40 3 paC wr w1.heap.size (.slice a7 (K ++ [p]).length d7) (K ++ [p])) ∧ Hid (0 ≤ H ∧ H ≤ 60 * (t : Int) + j) ∧ Hid (Below w1.heap.size w1 wr)) (fun x _ => (K.length + 1) - (intOf x).toNat)
          case atStart => exact ⟨0, c6.hits, rfl, Nat.zero_le _, HCO7, HKP7, hide ⟨(unhide HHB).1, by have := (unhide HHB).2.1; omega⟩, HLO7⟩
          case round =>
            obtain ⟨j, H, rfl, hj, HC, HP8, HH8, HL8⟩ := hrel
            by_cases hjl : j < (K.length + 1)
            · have hjl' : (j : Int) < (((K.length + 1) : Nat) : Int) := by omega
              have hjK : j < (K ++ [p]).length := by rw [unhide HNL]; exact hjl
              obtain ⟨gk, ck, ek, -, -, -, hgl, hcell, -⟩ := (unhide HP8).pos eAct.len pa0 (Nat.lt_of_le_of_lt (Nat.zero_le _) hjK)
              cases ek
              have hgb : gk ≠ b := (unhide HAP7 gk rfl).1
              have k1 : wr.cell? ⟨gk, j * 3 + 1, none⟩ = some (.slice ((K ++ [p]).getD j pa0).a1 ((K ++ [p]).getD j pa0).an.out.length ((K ++ [p]).getD j pa0).c1) := hcell j 1 hjK (by omega)
              have k2 : wr.cell? ⟨gk, j * 3 + 2, none⟩ = some (.slice ((K ++ [p]).getD j pa0).a2 ((K ++ [p]).getD j pa0).an.word.length ((K ++ [p]).getD j pa0).c2) := hcell j 2 hjK (by omega)
              have hpm : (K ++ [p]).getD j pa0 ∈ (K ++ [p]) := by rw [List.getD_eq_getElem?_getD, List.getElem?_eq_getElem hjK]; exact List.getElem_mem hjK
              obtain ⟨hql, hqf⟩ := unhide HT6 _ hpm
              have HQA := hide ((unhide HH).each _ hql)
              have HQM := hide ((unhide HMOD).2 _ hql)
              have HPK := hide (unhide HP8)
              generalize (K ++ [p]).getD j pa0 = q at *
              have hgt := get_any q.a1 q.c1 q.an.out (unhide HC) ((unhide HQA).out.rd.below (unhide HL8)) (by have := (unhide HQM).2.1; omega) (unhide HH8).1 (by have := (unhide HH8).2; show H ≤ _; omega) (by show 0 ≤ c6.miss; rw [(unhide HHB).2.2.1]; decide) (by show c6.miss ≤ _; rw [(unhide HHB).2.2.1]; decide)
              have HQF := hide hqf
              clear hcell hpm hql hqf hno
              go_wp2_with fail
              refine hgt.mono ?_
              rintro e w8 ⟨co8, bx8, v8, rfl, ho8⟩
              rw [get_told H (unhide HQF)] at co8
              rw [find_hits H (unhide HQF)] at ho8 ⊢
              obtain ⟨a8, c8, rfl, -, -, -, rd8, -⟩ := OwnL.shape (l := q.an.word) ho8
              have hL8 : Below w1.heap.size w1 w8 := (unhide HL8).trans (bx8.below (fun k hk => by cases hk; exact hbb) (unhide HL8).size)
              have k1 : w8.cell? ⟨gk, j * 3 + 1, none⟩ = _ := bx8.cell k1 hgb
              have k2 : w8.cell? ⟨gk, j * 3 + 2, none⟩ = _ := bx8.cell k2 hgb
              have hsm := same_list a8 q.a2 c8 q.c2 q.an.word q.an.word w8 rd8 ((unhide HQA).word.rd.below hL8) (by have := (unhide HQM).2.2; unfold maxLen; omega)
              rw [decide_eq_true rfl] at hsm
              have HHS : Hid (∀ w9, Below w8.heap.size w8 w9 → Calls Try.prog 20 #[.pointer (some ⟨b, 0, none⟩), .slice q.a1 q.an.out.length q.c1] w9 fun e w' => e = .returned (.bool true) ∧ Below w9.heap.size w9 w') := fun w9 h9 => by
                have := has_any q.a1 q.c1 q.an.out (co8.below h9) ((unhide HQA).out.rd.below (bstep hL8 h9)) (by have := (unhide HQM).2.1; omega)
                rwa [find_hits (H + 1) (unhide HQF)] at this
              have HCO8 := hide co8
              have HP9 := hide ((unhide HPK).bx bx8 fun k hk q => by cases hk; exact hgb q)
              have HL9 := hide hL8
              have HK1 : Hid (∀ w9, Below w8.heap.size w8 w9 → w9.cell? ⟨gk, j * 3 + 1, none⟩ = some (.slice q.a1 q.an.out.length q.c1)) := fun w9 h9 => (h9.cell (World.block_lt_of_cell? _ _ k1)).trans k1
              generalize q.an.word.length = QW at *
              generalize q.an.out.length = QO at *
              clear hgt co8 ho8 rd8 hL8 HC HP8 HL8 bx8 HPK
              go_wp2_with (first | (go_at_call 19; refine hsm.mono ?_; rintro e w9 ⟨rfl, hb9⟩; have k1 := unhide HK1 w9 hb9) | (go_at_call 20; refine (unhide HHS w9 hb9).mono ?_; rintro e w10 ⟨rfl, hb10⟩))
              have hb10' := bstep hb9 hb10
              go_roundw
              case rel => exact ⟨j + 1, H + 1, by go_num, by omega, hide ((unhide HCO8).below hb10'), hide ((unhide HP9).below hb10'), hide ⟨by have := (unhide HH8).1; omega, by have := (unhide HH8).2; omega⟩, hide (bstep (unhide HL9) hb10')⟩
              case measure => simp [intOf]; omega
            · have hjl' : ¬ (j : Int) < (((K.length + 1) : Nat) : Int) := by omega
              clear hno
              go_wp2
              go_roundw
              case rel =>
                have hHB := unhide HHB
                have hH8 := unhide HH8
                refine ⟨t + 1, g6, cap6, { c6 with hits := H }, R6, (K ++ [p]), by go_num, by omega, hide ⟨unhide HC, ?_, ?_, ?_, by rw [unhide HNL]; exact unhide HLN, hHB.2.2.1, hH8.1, by show H ≤ _; omega, hHB.2.2.2, unhide HL8⟩⟩
                · have := unhide HP8
                  rw [unhide HNL] at this; exact this
                · have := unhide HAP7
                  rw [unhide HNL] at this; exact this
                · exact unhide HT6
              case measure => simp [intOf]; omega
        · have e6 := put_err hz
          have t0 : ((putV c p.an.out p.an.word).2 == 0) = false := beq_eq_false_iff_ne.2 hz
          rw [e6] at HCO6
          generalize (putV c p.an.out p.an.word).2 = E at *
          have hno := nodes_any (unhide HCO6)
          have hwd := words_any (unhide HCO6)
          have ne : (((c.bg.length : Nat) : Int) != (N0 : Int)) = false := by rw [hNN]; simp
          clear e6 hz
          go_wp2_with (first | (go_at_call 13; refine (num_any _ _).mono ?_; rintro e w' ⟨rfl, hw'⟩; subst w') | (go_at_call 21; refine hno.mono ?_; rintro e w' ⟨rfl, hw'⟩; subst w') | fail)
          refine hwd.mono ?_
          rintro e w7 ⟨vw7, us7, L7, rfl, hWd7, hLL7, hb7, hL17, hL27⟩
          obtain rfl := Wds.one (unhide HWd) hWd7
          have hls := lls_same hLL7 ((unhide HLL6).below hb7) (by have := unhide HL1; have := (unhide HK).co.i.pc.m1; have := (unhide HK).co.i.pc.room; unfold maxLen; omega) (fun u hu => by have := unhide HL2 u hu; have := (unhide HK).co.i.pc.m1; have := (unhide HK).co.i.pc.room; unfold maxLen; omega)
          obtain ⟨a7', d7', rfl, -⟩ := hLL7.rdx
          clear hno hwd hLL7 hL17 hL27 hWd7
          go_wp2_with (first | (go_at_call 25; refine hls.mono ?_; rintro e w8 ⟨rfl, hb8⟩) | fail)
          have hb8' := bstep hb7 hb8
          have HCO7 := hide ((unhide HCO6).below hb8')
          have HAP7 := HAP6
          have HLO7 := hide (bstep (unhide HLO6) hb8')
          have HKP7 := hide ((unhide HKP6).below hb8')
          have HLN : Hid (K.length ≤ t + 1) := by show _ ≤ _; have := (unhide HK).ln; omega
          have HHB : Hid (0 ≤ c.hits ∧ c.hits ≤ 60 * (t : Int) ∧ c.miss = 0 ∧ c.most = most) := ⟨(unhide HK).h0, (unhide HK).h1, (unhide HK).ms, (unhide HK).mo⟩
          have HT6 := hide (unhide HK).tl
          have hNd : N0 ≤ c.bg.length ∧ ((c.bg.length : Nat) : Int) ≤ most := by rw [hNN]; exact ⟨Nat.le_refl _, hNm⟩
          clear hb8 hb7 hb8' hls HKP6 HAP6 HCO6 HLO6 HLL6 HLT t0 ne
          have hno := nodes_any (unhide HCO7)
          have n1 : ¬ ((c.bg.length : Nat) : Int) < (N0 : Int) := by omega
          have n2 : ¬ ((c.bg.length : Nat) : Int) > most := by omega
          have n3 : ¬ ((c.bg.length : Nat) : Int) < 1 := by omega
          have hNL60 : K.length ≤ 60 := by have := unhide HLN; omega
          generalize hCN : c.bg.length = CN at hno n1 n2 n3
          have m1 : decide ((CN : Int) < (N0 : Int)) = false := decide_eq_false n1
          have m1' : decide (CN < N0) = false := decide_eq_false (by omega)
          have m2 : decide ((CN : Int) > most) = false := decide_eq_false n2
          have m2' : decide (most < (CN : Int)) = false := decide_eq_false n2
          have m3 : decide ((CN : Int) < 1) = false := decide_eq_false n3
          have m3' : decide (CN < 1) = false := decide_eq_false (by omega)
          have m3'' : decide (CN = 0) = false := decide_eq_false (by omega)
          clear hNd hCN
          refine hno.mono ?_
          rintro e w' ⟨rfl, hw'⟩
          subst w'
          go_wp2_with (first | (go_at_call 21; refine hno.mono ?_; rintro e w' ⟨rfl, hw'⟩; subst w'))
          go_loopw [18] (fun x wr => ∃ (j : Nat) (H : Int), x = .int .i64 j ∧ j ≤ K.length ∧ Hid (Co w1.heap.size wr b g6 cap6 { c with hits := H } R6) ∧ Hid (OwnG 40 3 paC wr w1.heap.size (.slice av K.length cv) K) ∧ Hid (0 ≤ H ∧ H ≤ 60 * (t : Int) + j) ∧ Hid (Below w1.heap.size w1 wr)) (fun x _ => K.length - (intOf x).toNat)
          case atStart => exact ⟨0, c.hits, rfl, Nat.zero_le _, HCO7, HKP7, hide ⟨(unhide HHB).1, by have := (unhide HHB).2.1; omega⟩, HLO7⟩
          case round =>
            obtain ⟨j, H, rfl, hj, HC, HP8, HH8, HL8⟩ := hrel
            by_cases hjl : j < K.length
            · have hjl' : (j : Int) < ((K.length : Nat) : Int) := by omega
              have hjK : j < K.length := by exact hjl
              obtain ⟨gk, ck, ek, -, -, -, hgl, hcell, -⟩ := (unhide HP8).pos eAct.len pa0 (Nat.lt_of_le_of_lt (Nat.zero_le _) hjK)
              cases ek
              have hgb : gk ≠ b := (unhide HAP7 gk rfl).1
              have k1 : wr.cell? ⟨gk, j * 3 + 1, none⟩ = some (.slice (K.getD j pa0).a1 (K.getD j pa0).an.out.length (K.getD j pa0).c1) := hcell j 1 hjK (by omega)
              have k2 : wr.cell? ⟨gk, j * 3 + 2, none⟩ = some (.slice (K.getD j pa0).a2 (K.getD j pa0).an.word.length (K.getD j pa0).c2) := hcell j 2 hjK (by omega)
              have hpm : K.getD j pa0 ∈ K := by rw [List.getD_eq_getElem?_getD, List.getElem?_eq_getElem hjK]; exact List.getElem_mem hjK
              obtain ⟨hql, hqf⟩ := unhide HT6 _ hpm
              have HQA := hide ((unhide HH).each _ hql)
              have HQM := hide ((unhide HMOD).2 _ hql)
              have HPK := hide (unhide HP8)
              generalize K.getD j pa0 = q at *
              have hgt := get_any q.a1 q.c1 q.an.out (unhide HC) ((unhide HQA).out.rd.below (unhide HL8)) (by have := (unhide HQM).2.1; omega) (unhide HH8).1 (by have := (unhide HH8).2; show H ≤ _; omega) (by show 0 ≤ c.miss; rw [(unhide HHB).2.2.1]; decide) (by show c.miss ≤ _; rw [(unhide HHB).2.2.1]; decide)
              have HQF := hide hqf
              clear hcell hpm hql hqf hno
              go_wp2_with fail
              refine hgt.mono ?_
              rintro e w8 ⟨co8, bx8, v8, rfl, ho8⟩
              rw [get_told H (unhide HQF)] at co8
              rw [find_hits H (unhide HQF)] at ho8 ⊢
              obtain ⟨a8, c8, rfl, -, -, -, rd8, -⟩ := OwnL.shape (l := q.an.word) ho8
              have hL8 : Below w1.heap.size w1 w8 := (unhide HL8).trans (bx8.below (fun k hk => by cases hk; exact hbb) (unhide HL8).size)
              have k1 : w8.cell? ⟨gk, j * 3 + 1, none⟩ = _ := bx8.cell k1 hgb
              have k2 : w8.cell? ⟨gk, j * 3 + 2, none⟩ = _ := bx8.cell k2 hgb
              have hsm := same_list a8 q.a2 c8 q.c2 q.an.word q.an.word w8 rd8 ((unhide HQA).word.rd.below hL8) (by have := (unhide HQM).2.2; unfold maxLen; omega)
              rw [decide_eq_true rfl] at hsm
              have HHS : Hid (∀ w9, Below w8.heap.size w8 w9 → Calls Try.prog 20 #[.pointer (some ⟨b, 0, none⟩), .slice q.a1 q.an.out.length q.c1] w9 fun e w' => e = .returned (.bool true) ∧ Below w9.heap.size w9 w') := fun w9 h9 => by
                have := has_any q.a1 q.c1 q.an.out (co8.below h9) ((unhide HQA).out.rd.below (bstep hL8 h9)) (by have := (unhide HQM).2.1; omega)
                rwa [find_hits (H + 1) (unhide HQF)] at this
              have HCO8 := hide co8
              have HP9 := hide ((unhide HPK).bx bx8 fun k hk q => by cases hk; exact hgb q)
              have HL9 := hide hL8
              have HK1 : Hid (∀ w9, Below w8.heap.size w8 w9 → w9.cell? ⟨gk, j * 3 + 1, none⟩ = some (.slice q.a1 q.an.out.length q.c1)) := fun w9 h9 => (h9.cell (World.block_lt_of_cell? _ _ k1)).trans k1
              generalize q.an.word.length = QW at *
              generalize q.an.out.length = QO at *
              clear hgt co8 ho8 rd8 hL8 HC HP8 HL8 bx8 HPK
              go_wp2_with (first | (go_at_call 19; refine hsm.mono ?_; rintro e w9 ⟨rfl, hb9⟩; have k1 := unhide HK1 w9 hb9) | (go_at_call 20; refine (unhide HHS w9 hb9).mono ?_; rintro e w10 ⟨rfl, hb10⟩))
              have hb10' := bstep hb9 hb10
              go_roundw
              case rel => exact ⟨j + 1, H + 1, by go_num, by omega, hide ((unhide HCO8).below hb10'), hide ((unhide HP9).below hb10'), hide ⟨by have := (unhide HH8).1; omega, by have := (unhide HH8).2; omega⟩, hide (bstep (unhide HL9) hb10')⟩
              case measure => simp [intOf]; omega
            · have hjl' : ¬ (j : Int) < ((K.length : Nat) : Int) := by omega
              clear hno
              go_wp2
              go_roundw
              case rel =>
                have hHB := unhide HHB
                have hH8 := unhide HH8
                refine ⟨t + 1, g6, cap6, { c with hits := H }, R6, K, by go_num, by omega, hide ⟨unhide HC, ?_, ?_, ?_, by exact unhide HLN, hHB.2.2.1, hH8.1, by show H ≤ _; omega, hHB.2.2.2, unhide HL8⟩⟩
                · have := unhide HP8
                  exact this
                · have := unhide HAP7
                  exact this
                · exact unhide HT6
              case measure => simp [intOf]; omega
    · obtain rfl : t = l.length := by omega
      have hlt' : ¬ (l.length : Int) < (l.length : Int) := by omega
      have hms := misses_any (unhide HK).co
      rw [(unhide HK).ms] at hms
      have HLO := hide (unhide HK).lo
      go_wp2_with (first | (go_at_call 23; refine hms.mono ?_; rintro e w' ⟨rfl, hw'⟩; subst w') | (go_at_call 10; refine (live_any _).mono ?_; rintro e w9 ⟨rfl, hb9⟩))
      go_ret
      exact ⟨rfl, bstep (unhide HLO) hb9⟩

end Go.Proofs.Ytemalidanjfmkaa
