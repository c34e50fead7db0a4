/-
  What the program's byLeast returns: the classes numbered by their least members.
-/
import Derived.Test.YtnakadlhafggkaaUByL
import Derived.Test.YtnakadlhafggkaaK1
import Derived.Test.YtnakadlhafggkaaK3
import Derived.Test.YtnakadlhafggkaaQMath
namespace Go.Proofs.Ytnakadlhafggkaa
open Go.RowKit Go.Maps

structure BInv (C : Nat → Nat) (n : Nat) (w wr : World) (s : Nat) (D : DataW Unit) : Prop where
  mp : wr.ownsMap Try.prog 3 (plainElem Try.prog 3) w.heap.size s D
  sy : Says D (fsL C s)
  ti : Tidy D
  sz : Maps.size D = nc (sqR C) s
  cs : Own wr (w.heap.size + 1) (.slice (some ⟨w.heap.size + 1, 0, none⟩) n n) n (fun i => if i < s then cl (sqR C) i else 0)
  bl : Below w.heap.size w wr
theorem clB_own {w : World} {B : Nat} {v : Value} {R : Nat → Nat → Bool} {n : Nat} (h : Own w B v n (fun i => if i < n then cl R i else 0)) : OwnL .i64 3 w B v (clL R n) := by
  refine list_of_own ?_
  rw [clL_len]
  exact h.congr fun i hi => by rw [if_pos hi, cl_at R hi]
theorem setBy_next {R : Nat → Nat → Bool} {s : Nat} {x : Int} (h : x = cl R s) (i : Nat) : setF s x (fun i => if i < s then cl R i else 0) i = if i < s + 1 then cl R i else 0 := by
  unfold setF
  by_cases e : i = s
  · subst e; rw [if_pos rfl, if_pos (by omega), h]
  · rw [if_neg e]
    show (if i < s then cl R i else 0) = _
    by_cases c : i < s
    · rw [if_pos c, if_pos (by omega)]
    · rw [if_neg c, if_neg (by omega)]
section
variable {C : Nat → Nat} {n : Nat} {w wr w2 : World} {s : Nat} {D : DataW Unit}
theorem BInv.kept (h : BInv C n w wr s D) (hg : wr.grownBy w2 (some w.heap.size)) : Own w2 (w.heap.size + 1) (.slice (some ⟨w.heap.size + 1, 0, none⟩) n n) n (fun i => if i < s then cl (sqR C) i else 0) := by
  have hlt := World.ownsRow.lt h.cs _ rfl
  refine ⟨h.cs.1, ?_⟩
  rcases h.cs.2 with h2 | ⟨g, cap, cur, e, hgb, hcell, rest⟩
  · exact .inl h2
  · refine .inr ⟨g, cap, cur, e, hgb, ?_, rest⟩
    cases e
    rw [hg.block _ hlt.2 (fun e => by have := Option.some.inj e; omega)]; exact hcell
theorem BInv.cell (h : BInv C n w wr s D) (hs : s < n) (hg : wr.grownBy w2 (some w.heap.size)) : w2.cell? ⟨w.heap.size + 1, s, none⟩ = some (.int .i64 0) ∧ w2.frozen? ⟨w.heap.size + 1, s, none⟩ = false := by
  obtain ⟨g, cap, e, _, _, _, _, hc, hf⟩ := (h.kept hg).pos (by omega)
  cases e
  have := hc s hs
  rw [if_neg (by omega)] at this
  exact ⟨this, hf s⟩
theorem BInv.next {D' : DataW Unit} (h : BInv C n w wr s D) (hg : wr.grownBy w2 (some w.heap.size)) (hm : w2.ownsMap Try.prog 3 (plainElem Try.prog 3) w.heap.size (s + 1) D') (sy : Says D' (fsL C (s + 1))) (ti : Tidy D') (sz : Maps.size D' = nc (sqR C) (s + 1)) {x : Int} (hx : x = cl (sqR C) s) :
    BInv C n w (w2.setCell ⟨w.heap.size + 1, s, none⟩ (.int .i64 x)) (s + 1) D' := by
  have cs2 := h.kept hg
  refine ⟨hm.setCell (by simp) _, sy, ti, sz, (cs2.store s x).congr fun i _ => setBy_next hx i, ?_⟩
  have b2 : Below w.heap.size w w2 := h.bl.grown hg h.bl.size fun k e => by cases e; exact Nat.le_refl _
  exact b2.setCell (p := ⟨w.heap.size + 1, s, none⟩) (by simp) _
end
theorem lookB {w : World} {g n : Nat} {D : DataW Unit} {S : List Int} {r : Int} (ho : w.ownsMap Try.prog 3 (plainElem Try.prog 3) g n D) (hsay : Says D S) (hr : r ∈ S) (r0 : -1099511627776 ≤ r) (r1 : r ≤ 1099511627776) :
    (Instr.lookup 89 (.map (some g)) (.int .i64 r) false).run Try.prog w = .ok (.int .i64 (S.idxOf r : Nat)) w := by
  obtain ⟨c, hrun, hat, _⟩ := ho.lookup_int keyed64 Try.underlying89 Try.underlying3 (zeroInt _) (key64 r0 r1)
  rw [(hsay r).2 hr] at hat
  cases hat
  exact hrun

set_option maxRecDepth 100000 in
set_option maxHeartbeats 1000000 in
theorem byLeast_any (a : Option Addr) (c n : Nat) (C : Nat → Nat) (w : World) (hR : RdL .i64 w a (tab n C)) (hC : ∀ i, i < n → C i ≤ 65536) (h0 : 0 < n) (h1 : n ≤ 65536) :
    Calls Try.prog 40 #[.slice a n c] w fun e w' => ∃ v, e = .returned v ∧ OwnL .i64 3 w' w.heap.size v (clL (sqR C) n) ∧ Below w.heap.size w w' := by
  have hmm := @run_makeMap Try.prog
  have M0 := World.ownsMap_made w Try.prog 3 (plainElem (H := Unit) Try.prog 3)
  have HM0 := hide M0
  have HC := hide hC
  clear M0 hC
  go_enter Try.func40, Try.ntmps40
  go_wp2_with (at_make; refine wpl_make rfl (.tmp 11) (.tmp 11) rfl (w.heap.size + 1) _ _ n rfl rfl rfl rfl (by omega) (by simp) ?_; intro w1 hown1 hb1 hg1)
  have I0 : BInv C n w w1 0 (.map []) := by
    refine ⟨(unhide HM0).kept hg1 (by simp), Says.nil, tidy_empty, rfl, ?_, (ballo w _).trans (hb1.mono (by omega))⟩
    have e : (w.alloc (.map #[] 0)).heap.size = w.heap.size + 1 := by simp
    rw [e] at hown1
    exact hown1.congr fun i _ => by simp
  have HI0 := hide I0
  clear I0 hown1 hg1 HM0 hmm hb1
  go_loopw [5, 6, 7, 8, 15] (fun _ _ _ _ a wr => ∃ (s : Nat) (D : DataW Unit), s ≤ n ∧ a = .int .i64 s ∧ BInv C n w wr s D) (fun _ _ _ _ a _ => n - (intOf a).toNat)
  case atStart => exact ⟨0, _, Nat.zero_le _, rfl, unhide HI0⟩
  case round =>
    obtain ⟨s, D, hs, rfl, hinv⟩ := hrel
    clear HI0
    have HI := hide hinv
    by_cases hlt : s < n
    · have hlt' : (s : Int) < (n : Int) := by omega
      obtain ⟨ab, ao, rfl, hc⟩ := (hR.below hinv.bl).at (i := s) (by rw [tab_len]; exact hlt)
      have hcs := hc s (by rw [tab_len]; exact hlt)
      rw [tab_at _ hlt] at hcs
      have hCs := unhide HC s hlt
      have hkey := key64 (x := ((C s : Nat) : Int)) (by omega) (by omega)
      have mp := hinv.mp
      obtain ⟨hhas, hat⟩ := hinv.sy ((C s : Nat) : Int)
      have HK := hide hkey
      have hncs := nc_le (sqR C) s
      have hsz := hinv.sz
      by_cases hno : first (sqR C s) s = none
      · have hnm := fsL_no hno
        have th : Maps.has D (.int .i64 ((C s : Nat) : Int)) = false := by rw [hhas]; simpa using hnm
        have hsy2 := hinv.sy.new hnm mp.isMap (keyed64.key hkey)
        rw [← fsL_new hno, fsL_len] at hsy2
        have ht2 := hinv.ti.put (keyed64.key hkey) (.lit (.int .i64 (nc (sqR C) s : Nat)))
        have hz2 : Maps.size (D.put (.int .i64 ((C s : Nat) : Int)) (.lit (.int .i64 (nc (sqR C) s : Nat)))) = nc (sqR C) (s + 1) := by
          rw [size_put hinv.ti, th, hsz]
          show _ = nc (sqR C) s + _
          rw [if_pos hno]; rfl
        have hm2 := (fsL_at (C := C) (i := s + 1) (s := s) (by omega))
        have hcl : (((nc (sqR C) s : Nat)) : Int) = cl (sqR C) s := (cl_none hno).symm
        have HX := hide hm2
        have HS2 := hide hsy2
        have HT2 := hide ht2
        have HZ2 := hide hz2
        have HSZ := hide hsz
        clear hhas hat hinv hkey hsy2 ht2 hz2 hm2 hno hnm hsz hcl
        generalize hNN : nc (sqR C) s = NN at *
        generalize hcc : C s = cc at *
        clear hNN
        have HCC := hide hcc
        clear hcc
        go_wp2_with (first | (at_lookup; refine wpList_lookup_own_ok_int _ rfl (.tmp 21) (.tmp 22) 89 rfl 3 3 .i64 keyed64 Try.underlying89 Try.underlying3 (zeroInt _) w.heap.size s D rfl mp _ _ rfl (unhide HK) ?_; intro c0 hc0 hwc0; rw [th]) | (at_len; refine wpList_len_own _ rfl (.tmp 30) 89 rfl 3 3 Try.underlying89 (plainElem Try.prog 3) w.heap.size s D rfl mp ?_; rw [unhide HSZ]) | (at_mapUpdate; refine wpList_mapUpdate_own _ rfl (.tmp 28) (.tmp 29) (.tmp 31) 89 rfl 3 3 keyed64 Try.underlying89 (plainElem Try.prog 3) w.heap.size s D rfl mp (by unfold maxLen; omega) _ _ _ rfl rfl (unhide HK) _ [] (plainElem_int Try.underlying3 (WalkArith.wf_i64 (by omega))) ?_; intro w2 hown2 hg2; obtain ⟨kc, kf⟩ := (unhide HI).cell hlt hg2; have hlk := lookB hown2 (unhide HS2) (unhide HX).1 (by omega) (by omega)))
        go_roundw
        case rel => exact ⟨s + 1, _, by omega, by go_num, (unhide HI).next hg2 hown2 (unhide HS2) (unhide HT2) (unhide HZ2) (unhide HX).2⟩
        case measure => simp [intOf]; omega
      · have hmem := fsL_is hno
        have th : Maps.has D (.int .i64 ((C s : Nat) : Int)) = true := by rw [hhas]; simpa using hmem
        have hlk := lookB mp hinv.sy hmem (by omega) (by omega)
        have HX : Hid (((fsL C s).idxOf ((C s : Nat) : Int) : Nat) = cl (sqR C) s) := by
          have := (fsL_at (C := C) (i := s + 1) (s := s) (by omega)).2
          rw [fsL_old hno] at this; exact this
        have HS2 : Hid (Says D (fsL C (s + 1))) := by show Says _ _; rw [fsL_old hno]; exact hinv.sy
        have HT2 := hide hinv.ti
        have HZ2 : Hid (Maps.size D = nc (sqR C) (s + 1)) := by
          show _ = _
          rw [hsz]
          show _ = nc (sqR C) s + _
          rw [if_neg hno]; rfl
        obtain ⟨kc, kf⟩ := hinv.cell hlt (World.grownBy.refl _ _)
        have hat' := hat hmem
        clear hhas hat hinv hkey hno hmem hsz
        generalize hII : (fsL C s).idxOf ((C s : Nat) : Int) = II at *
        clear hII
        go_wp2_with (at_lookup; refine wpList_lookup_own_ok_int _ rfl (.tmp 21) (.tmp 22) 89 rfl 3 3 .i64 keyed64 Try.underlying89 Try.underlying3 (zeroInt _) w.heap.size s D rfl mp _ _ rfl (unhide HK) ?_; intro c0 hc0 hwc0; rw [hat'] at hc0; cases hc0; rw [th])
        go_roundw
        case rel => exact ⟨s + 1, _, by omega, by go_num, (unhide HI).next (World.grownBy.refl _ _) (mp.mono (by omega)) (unhide HS2) (unhide HT2) (unhide HZ2) (unhide HX)⟩
        case measure => simp [intOf]; omega
    · have he : s = n := by omega
      subst he
      go_wp2
      go_ret
      exact ⟨_, rfl, (clB_own hinv.cs).mono (by omega), hinv.bl⟩
end Go.Proofs.Ytnakadlhafggkaa
