/-
  What addShortest of differ leaves: the sieve behind the shortest words.
-/
import Derived.Test.YtknefgdcnacfoaaDAdd
namespace Go.Proofs.Ytknefgdcnacfoaa
open Go.RowKit Go.Maps

theorem rd_of_own {w : World} {B g n c : Nat} {f : Nat → Int} {l : List Int} (h : Own w B (.slice (some ⟨g, 0, none⟩) n c) n f) (hl : l.length = n) (e : ∀ i, i < n → f i = l.getD i 0) : RdL .i64 w (some ⟨g, 0, none⟩) l := by
  by_cases h0 : n = 0
  · exact .inl (by omega)
  · obtain ⟨g', c', e', -, -, -, -, hc, -⟩ := h.pos (by omega)
    cases e'
    exact .inr ⟨g, 0, rfl, fun i hi => by rw [Nat.zero_add, hc i (by omega), e i (by omega)]⟩
theorem sdL_nil {m : Mc} {n : Nat} (h : m.out.length = n) : sdL m n [] = m.out := by
  refine List.ext_getElem? fun i => ?_
  by_cases hi : i < n
  · have h1 : (sdL m n [])[i]? = some (lst m [] ((i : Nat) : Int)) := by simp [sdL, hi]
    rw [h1]
    show some (m.out.getD ((i : Nat) : Int).toNat 0) = _
    rw [Int.toNat_natCast, List.getD_eq_getElem?_getD, List.getElem?_eq_getElem (by omega)]; rfl
  · rw [List.getElem?_eq_none (by rw [sdL_len]; omega), List.getElem?_eq_none (by omega)]
/-- How long the shortest words are. -/
def lv0 (m : Mc) : Nat := if m.kind = 1 then 0 else 1
def ShPost (m : Mc) (n B vb gl : Nat) (w : World) (e : Ending) (w' : World) : Prop :=
  e = .returned (.tuple #[]) ∧ ∃ cnt ls vk MK M, SvO m n B w' vb gl cnt ls vk MK M ∧ OutI m n (lv0 m) 0 ls M ∧ Bx (fun j => j = vb ∨ j = gl) w w' ∧ ∀ b, vk.ownBlock = some b → w.heap.size ≤ b

theorem Box.bx2 {X : Nat → Prop} {w w' : World} {b : Nat} {m : Mc} {a1 : Option Addr} {c1 : Nat} {a2 : Option Addr} {c2 : Nat} (h : Box w b m a1 c1 a2 c2) (hb : Bx X w w') (hx : ¬ X b) : Box w' b m a1 c1 a2 c2 :=
  ⟨hb.cell h.p0 hx, hb.cell h.p1 hx, hb.cell h.p2 hx, hb.cell h.p3 hx, hb.cell h.p4 hx, hb.cell h.p5 hx⟩
theorem join1_any (W0 : World) (x : Int) (W : World) (hb : Below ((W0.alloc (.cells #[.int .i64 x] 3)).alloc (.cells #[.slice (some ⟨W0.heap.size, 0, none⟩) 1 1] 22)).heap.size ((W0.alloc (.cells #[.int .i64 x] 3)).alloc (.cells #[.slice (some ⟨W0.heap.size, 0, none⟩) 1 1] 22)) W) :
    Calls Try.prog 46 #[.slice (some ⟨W0.heap.size + 1, 0, none⟩) 1 1] W fun e w' => ∃ v, e = .returned v ∧ OwnL .i64 3 w' W.heap.size v [x] ∧ Below W.heap.size W w' := by
  have r1 := (((RdL.one (q := .i64) (t := 3) W0 x).below (ballo _ (.cells #[.slice (some ⟨W0.heap.size, 0, none⟩) 1 1] 22))).below hb)
  have hz : (W0.alloc (.cells #[.int .i64 x] 3)).heap.size = W0.heap.size + 1 := by simp
  have r2 : RdV W (some ⟨W0.heap.size + 1, 0, none⟩) 1 (fun _ => .slice (some ⟨W0.heap.size, 0, none⟩) 1 1) := by
    refine .inr ⟨_, _, rfl, fun i hi => ?_⟩
    obtain rfl : i = 0 := by omega
    refine (hb.cell (by simp)).trans ?_
    rw [← hz]
    simp
  have := joinL_any (some ⟨W0.heap.size + 1, 0, none⟩) 1 1 (fun _ => .slice (some ⟨W0.heap.size, 0, none⟩) 1 1) (fun _ => [x]) (fun _ => 1) (fun _ => some ⟨W0.heap.size, 0, none⟩) W r2 (by omega) (fun i hi => ⟨rfl, r1, fun e => (by cases e), by simp⟩)
  exact this

set_option maxRecDepth 100000 in
set_option maxHeartbeats 4000000 in
theorem addShortest_any (m : Mc) (a1 : Option Addr) (c1 : Nat) (a2 : Option Addr) (c2 : Nat) (n k B vb gl cnt : Nat) (w : World) (R : Right m) (hn : m.n = (n : Int)) (hk : m.k = (k : Int)) (o1 : m.o ≤ 64) (h1 : RdL .i64 w a1 m.nx) (h2 : RdL .i64 w a2 m.out) (ha1 : ∀ x, a1 = some x → x.block < B) (ha2 : ∀ x, a2 = some x → x.block < B) (hg : B ≤ gl) (hB : B ≤ w.heap.size)
    (h : SvO m n B w vb gl cnt (fun _ => 0) (.slice none 0 0) [] []) :
    Calls Try.prog 51 #[.pointer (some ⟨vb, 0, none⟩), mval m a1 c1 a2 c2] w fun e w' => ShPost m n B vb gl w e w' := by
  have n0 := R.n0
  have n1 := R.n1
  have k0 := R.k0
  have k1 := R.k1
  have hn1 : 1 ≤ n := by omega
  have hn2 : n ≤ 1024 := by omega
  obtain ⟨w0, hw0⟩ : ∃ w0, w0 = w.alloc (.cells #[.int .i64 m.kind, .int .i64 m.k, .int .i64 m.o, .int .i64 m.n, .slice a1 m.nx.length c1, .slice a2 m.out.length c2] 24) := ⟨_, rfl⟩
  have b0 : Below w.heap.size w w0 := by rw [hw0]; exact ballo _ _
  have A0 : Box w0 w.heap.size m a1 c1 a2 c2 := by rw [hw0]; exact Box.alloc w m a1 c1 a2 c2 24
  have z0 : w0.heap.size = w.heap.size + 1 := by rw [hw0]; simp
  have HA := hide A0
  have HB0 := hide b0
  have HZ0 := hide z0
  have HR := hide R
  have HN := hide hn
  have HK := hide hk
  have HH := hide (h.on b0)
  have hvl := h.vlt
  have hgl := h.lo.lt.2
  have hvB := h.bv
  obtain ⟨p0, p1, p2, p3, p4, p5⟩ := A0
  unfold mval
  by_cases hkd : m.kind = 1
  · have ol : m.out.length = n := by have := R.outD hkd; omega
    have HC0 : Hid (Cand m n (fun _ => False) []) := ⟨Wrd.nil _, .inr hkd, (cand1 (m := m) (n := n)).1, (cand1 (m := m) (n := n)).2.1, (cand1 (m := m) (n := n)).2.2⟩
    have HP : ∀ W, Below w0.heap.size w0 W → Calls Try.prog 46 #[.slice none 0 0] W fun e w' => ∃ v, e = .returned v ∧ OwnL .i64 3 w' W.heap.size v [] ∧ Below W.heap.size W w' := fun W _ =>
      joinL_any none 0 0 (fun _ => undef) (fun _ => []) (fun _ => 0) (fun _ => none) W (.inl rfl) (by omega) (fun i hi => by omega)
    have hrd : RdL .i64 w0 a2 (sdL m n []) := by rw [sdL_nil ol]; exact h2.below b0
    have HAD := hide (add_any m n B vb gl cnt (fun _ => 0) (.slice none 0 0) [] [] a2 c2 none 0 0 (fun _ => False) [] w0 R hn o1 (h.on b0) Siv.start (unhide HC0) hrd (fun x ex => ⟨by have := ha2 x ex; omega, by have := ha2 x ex; omega, fun e => by cases e⟩) (by omega) HP)
    rw [← ol] at HAD
    have HOL := hide ol
    have tk : (m.kind == 1) = true := by simp [hkd]
    have HKD := hide hkd
    rw [hw0] at p0 p5
    clear R hn hk h b0 z0 hkd hrd HP p1 p2 p3 p4 ol
    go_enter Try.func51, Try.ntmps51
    go_wp2_with fail
    rw [← hw0]
    refine (unhide HAD).mono ?_
    rintro e w1 ⟨rfl, cnt', ls', vk', MK', M', so, sv, hor, bx, hvk, -⟩
    have FIN : ShPost m m.out.length B vb gl w (.returned (.tuple #[])) w1 := by
      refine ⟨rfl, cnt', ls', vk', MK', M', so, ?_, ?_, fun b e => ?_⟩
      · unfold lv0
        rw [if_pos (unhide HKD)]
        refine start1 (unhide HKD) sv fun j hj => ?_
        rcases hor with ⟨_, e2, _⟩ | ⟨s, t, k', e2, _⟩
        · rw [e2] at hj; simp at hj
        · rw [e2] at hj ⊢
          have : j = 0 := by simp at hj; omega
          subst this; rfl
      · exact (Bx.of (unhide HB0)).trans bx fun j _ hj => by
          rcases hj with hj | hj | hj
          · exact .inl hj
          · exact .inr hj
          · cases hj
      · rcases hvk b e with c | c
        · cases c
        · have := unhide HZ0; omega
    rw [unhide HOL] at FIN
    have HFN := hide FIN
    clear FIN so sv hor bx hvk HAD
    go_wp2
    go_end0
    exact unhide HFN
  · have hk2 : m.kind = 2 := R.kd.resolve_left hkd
    have tk : (m.kind == 1) = false := by simp [hk2]
    have HKD := hide hk2
    have HKN := hide hkd
    have HV : Hid (∀ wx, Bx (fun j => j = vb ∨ j = gl) w0 wx → Box wx w.heap.size m a1 c1 a2 c2 ∧ RdL .i64 wx a1 m.nx ∧ RdL .i64 wx a2 m.out) := fun wx hx =>
      ⟨(unhide HA).bx2 hx (by rintro (e | e) <;> omega), (h1.below b0).bx hx (fun y e => by have := ha1 y e; rintro (d | d) <;> omega), (h2.below b0).bx hx (fun y e => by have := ha2 y e; rintro (d | d) <;> omega)⟩
    have HS0 : Hid (StI m n 0 (fun _ => 0) []) := StI.start
    rw [hw0] at p0 p1
    clear R hn hk b0 z0 hkd hk2 p2 p3 p4 p5 h1 h2 h
    go_enter Try.func51, Try.ntmps51
    go_wp2
    rw [← hw0]
    clear p0 p1 tk hw0
    go_loopw [16] (fun v wx => ∃ x : Nat, v = .int .i64 x ∧ x ≤ k ∧ ∃ cnt ls vk MK M, SvO m n B wx vb gl cnt ls vk MK M ∧ StI m n x ls M ∧ Bx (fun j => j = vb ∨ j = gl) w0 wx ∧ ∀ b, vk.ownBlock = some b → w0.heap.size ≤ b) (fun v _ => k - (intOf v).toNat)
    case atStart => exact ⟨0, rfl, Nat.zero_le _, cnt, _, _, _, _, unhide HH, unhide HS0, Bx.refl _ _, fun b e => (by cases e)⟩
    case round =>
      obtain ⟨x, rfl, hx, cnt', ls, vk, MK, M, hso, hst, hbx, hvk⟩ := hrel
      obtain ⟨wo, hwo⟩ : ∃ wo, wo = wr := ⟨_, rfl⟩
      subst wr
      by_cases hlt : x < k
      · have hlt' : (x : Int) < m.k := by have := unhide HK; omega
        have HSO := hide hso
        have HST := hide hst
        have HBX := hide hbx
        have HVK := hide hvk
        obtain ⟨p0, p1, p2, p3, p4, p5⟩ := (unhide HV wo hbx).1
        rw [unhide HN] at p3
        clear hso hst hbx hvk p0 p1 p2 p4 p5
        go_wp2_with (at_make; refine wpl_make rfl (.tmp 20) (.tmp 20) rfl wo.heap.size _ _ n rfl rfl rfl rfl (by omega) (Nat.le_refl _) ?_; intro w1 hown1 hb1 _)
        have HO1 : Hid (Own w1 wo.heap.size (.slice (some ⟨wo.heap.size, 0, none⟩) n n) n (fun s => if s < 0 then sdB m ((s : Nat) : Int) (x : Int) else 0)) := hown1.congr fun i _ => by rw [if_neg (by omega)]
        have HB1 := hide hb1
        clear hown1 hb1 p3
        go_loopw [24] (fun v wx => ∃ j : Nat, v = .int .i64 j ∧ j ≤ n ∧ Own wx wo.heap.size (.slice (some ⟨wo.heap.size, 0, none⟩) n n) n (fun s => if s < j then sdB m ((s : Nat) : Int) (x : Int) else 0) ∧ Below wo.heap.size wo wx) (fun v _ => n - (intOf v).toNat)
        case atStart => exact ⟨0, rfl, Nat.zero_le _, unhide HO1, unhide HB1⟩
        case round =>
          obtain ⟨j, rfl, hj, hown, hbx⟩ := hrel
          clear HO1 HB1
          have HOW := hide hown
          have HBW := hide hbx
          have hX : Bx (fun j => j = vb ∨ j = gl) w0 wr := (unhide HBX).trans (Bx.of hbx) fun j _ hj => hj
          by_cases hlj : j < n
          · have hlj' : (j : Int) < (n : Int) := by omega
            obtain ⟨hA, r1, r2⟩ := unhide HV wr hX
            have HSB := hide (saidBy_any m a1 c1 a2 c2 j x wr (unhide HR) r1 r2 (by have := unhide HN; omega) hlt')
            unfold mval at HSB
            obtain ⟨p0, p1, p2, p3, p4, p5⟩ := hA
            clear hown hbx hX r1 r2
            go_wp2_with fail
            refine (unhide HSB).mono ?_
            rintro e w2 ⟨rfl, hb2⟩
            have HB2 := hide hb2
            have how2 := (unhide HOW).below hb2
            have HOW2 := hide how2
            obtain ⟨g', c', e, -, -, -, -, hc, hf⟩ := how2.pos (by omega)
            obtain ⟨rfl, rfl⟩ : wo.heap.size = g' ∧ n = c' := by cases e; exact ⟨rfl, rfl⟩
            obtain ⟨q, hcj⟩ : ∃ q, w2.cell? ⟨wo.heap.size, j, none⟩ = some (.int .i64 q) := ⟨_, hc j hlj⟩
            have hfj := hf j
            obtain ⟨y, hy⟩ : ∃ y, y = sdB m ((j : Nat) : Int) (x : Int) := ⟨_, rfl⟩
            have HY := hide hy
            rw [← hy]
            clear hc hf e how2 hb2 hy HSB p0 p1 p2 p3 p4 p5
            go_wp2
            go_roundw
            case rel =>
              refine ⟨j + 1, by go_num, hlj, ((unhide HOW2).store j y).congr fun s hs => ?_, ((unhide HBW).trans ((unhide HB2).mono (unhide HBW).size)).setCell (p := ⟨wo.heap.size, j, none⟩) (Nat.le_refl _) _⟩
              unfold setF
              by_cases c : s = j
              · rw [if_pos c, if_pos (by omega), c, unhide HY]
              · rw [if_neg c]
                show (if s < j then sdB m ((s : Nat) : Int) (x : Int) else 0) = _
                by_cases d : s < j
                · rw [if_pos d, if_pos (by omega)]
                · rw [if_neg d, if_neg (by omega)]
            case measure => simp [intOf]; omega
          · have hlj' : ¬ (j : Int) < (n : Int) := by omega
            obtain rfl : j = n := by omega
            have hrd : RdL .i64 wr (some ⟨wo.heap.size, 0, none⟩) (sdL m j [(x : Int)]) := rd_of_own hown (sdL_len _ _ _) fun i hi => by rw [if_pos hi, sdL_at hi]; rfl
            have hso2 := (unhide HSO).on hbx
            have HVL := (unhide HSO).vlt
            have HGL := (unhide HSO).lo.lt.2
            have hcd : Cand m j (Ds x) [(x : Int)] := ⟨fun z hz => by simp at hz; subst hz; exact ⟨by omega, hlt'⟩, .inl (by simp), (StI.cand (n := j) (unhide HKD)).1, (StI.cand (n := j) (unhide HKD)).2.1, (StI.cand (n := j) (unhide HKD)).2.2⟩
            have hbb := bstep (ballo wr (.cells #[.int .i64 (x : Int)] 3)) (ballo (wr.alloc (.cells #[.int .i64 (x : Int)] 3)) (.cells #[.slice (some ⟨wr.heap.size, 0, none⟩) 1 1] 22))
            have z2 := hbx.size
            have z3 := (unhide HBX).size
            have HAD := hide (add_any m j B vb gl cnt' ls vk MK M (some ⟨wo.heap.size, 0, none⟩) j (some ⟨wr.heap.size + 1, 0, none⟩) 1 1 (Ds x) [(x : Int)] _ (unhide HR) (unhide HN) o1 (hso2.on hbb) (unhide HST).sv hcd (hrd.below hbb) (fun y e => by
              cases e
              exact ⟨fun e => by simp at e; omega, fun e => by simp at e; omega, fun e => by have : wo.heap.size < wo.heap.size := ((unhide HSO).mo.lt e).2; omega⟩) (by simp; omega) (join1_any wr (x : Int)))
            have HBB := hide hbb
            have HZ2 := hide z2
            have HZ3 := hide z3
            clear hown hbx hX hrd hso2 hcd hbb z2 z3
            go_wp2_with fail
            refine (unhide HAD).mono ?_
            rintro e w1 ⟨rfl, cnt2, ls2, vk2, MK2, M2, so, sv, hor, bx, hvk2, -⟩
            have HRL : Hid (∃ cnt ls vk MK M, SvO m j B w1 vb gl cnt ls vk MK M ∧ StI m j (x + 1) ls M ∧ Bx (fun j => j = vb ∨ j = gl) w0 w1 ∧ ∀ b, vk.ownBlock = some b → w0.heap.size ≤ b) := by
              refine ⟨cnt2, ls2, vk2, MK2, M2, so, ?_, ?_, fun b e => ?_⟩
              · rcases hor with ⟨e1, e2, _⟩ | ⟨s, t, k', e2, _⟩
                · subst e1; subst e2; exact (unhide HST).next0 sv
                · subst e2; exact (unhide HST).next1 sv
              · exact (((unhide HBX).trans (Bx.of (unhide HBW)) fun j _ hj => hj).trans (Bx.of (X := fun j => j = vb ∨ j = gl) (unhide HBB)) fun j _ hj => hj).trans bx fun j hj hx => by
                  rcases hx with hx | hx | hx
                  · exact .inl hx
                  · exact .inr hx
                  · have := unhide HVK j hx; omega
              · rcases hvk2 b e with c | c
                · exact unhide HVK b c
                · have := unhide HZ2; have := unhide HZ3; simp at c; omega
            clear so sv hor bx hvk2 HAD
            go_wp2
            go_roundw
            case rel => exact ⟨x + 1, by go_num, hlt, unhide HRL⟩
            case measure => simp [intOf]; omega
      · have hlt' : ¬ (x : Int) < m.k := by have := unhide HK; omega
        obtain rfl : x = k := by omega
        have FIN : ShPost m n B vb gl w (.returned (.tuple #[])) wo := by
          refine ⟨rfl, cnt', ls, vk, MK, M, hso, ?_, ?_, fun b e => ?_⟩
          · unfold lv0
            rw [if_neg (unhide HKN)]
            exact hst.end (unhide HKD) (unhide HK)
          · exact (Bx.of (unhide HB0)).trans hbx fun j _ hj => hj
          · have := hvk b e
            have := unhide HZ0; omega
        have HFN := hide FIN
        clear FIN hso hst hbx hvk
        go_wp2
        go_end0
        exact unhide HFN
end Go.Proofs.Ytknefgdcnacfoaa
