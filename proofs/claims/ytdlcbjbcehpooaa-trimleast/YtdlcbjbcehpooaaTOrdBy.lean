/-
  What the program's orderBy returns: the states by their new numbers, or that there is none for some number.
-/
import Derived.Test.YtdlcbjbcehpooaaTSearch
import Derived.Test.YtdlcbjbcehpooaaTPerm
namespace Go.Proofs.Ytdlcbjbcehpooaa
open Go.RowKit Go.Maps

/-- The map says of each number of l a place where it stands. -/
def Held (D : DataW Unit) (l : List Int) : Prop :=
  ∀ r, Maps.has D (.int .i64 r) = decide (r ∈ l) ∧ (r ∈ l → ∃ s : Nat, s < l.length ∧ l.getD s 0 = r ∧ D.atKey (.int .i64 r) (.lit (.int .i64 0)) = .lit (.int .i64 s))
def HMap (w : World) (b : Nat) (l : List Int) : Prop :=
  ∃ (n : Nat) (D : DataW Unit), w.ownsMap Try.prog 3 (plainElem Try.prog 3) b n D ∧ n ≤ l.length ∧ Held D l
theorem Held.nil : Held (.map []) [] := fun r => ⟨by simp [Maps.has], fun h => by simp at h⟩
theorem Held.put {D : DataW Unit} {l : List Int} {x : Int} (h : Held D l) (hD : IsMap D) (hk : WideAt.IsKeyLit (.int .i64 x)) :
    Held (D.put (.int .i64 x) (.lit (.int .i64 l.length))) (l ++ [x]) := by
  intro r
  obtain ⟨h1, h2⟩ := h r
  by_cases e : x = r
  · subst e
    rw [has_put_same hD hk, atKey_put_same hD hk]
    exact ⟨by simp, fun _ => ⟨l.length, by simp, gd_mid _ _ _, rfl⟩⟩
  · rw [has_put_other (lit_ne (Ne.symm e)), atKey_put_other (lit_ne (Ne.symm e)), h1]
    have e2 : r ∈ l ++ [x] ↔ r ∈ l := by simp; intro h; exact absurd h.symm e
    refine ⟨by simp only [e2], fun h3 => ?_⟩
    obtain ⟨s, a, b, c⟩ := h2 (e2.1 h3)
    exact ⟨s, by simp; omega, by rw [gd_left 0 a]; exact b, c⟩
theorem HMap.keep {w w' : World} {b : Nat} {l : List Int} (h : HMap w b l) (e : w'.heap[b]? = w.heap[b]?) : HMap w' b l := by
  obtain ⟨n, D, ⟨es, clock, hb, F, hs, hD⟩, hn, hsay⟩ := h
  exact ⟨n, D, ⟨es, clock, e.trans hb, F, hs, hD⟩, hn, hsay⟩
theorem HMap.lt {w : World} {b : Nat} {l : List Int} (h : HMap w b l) : b < w.heap.size := by
  obtain ⟨n, D, ho, _, _⟩ := h
  exact ho.lt

/-- What orderBy leaves. -/
def ObPost (p : List Int) (n : Int) (w : World) (e : Ending) (w' : World) : Prop :=
  (¬ IsP p n ∧ e = .returned (.tuple #[.agg #[.slice none 0 0, .map none], .bool false]) ∧ Below w.heap.size w w') ∨
  (IsP p n ∧ ∃ v g, e = .returned (.tuple #[.agg #[v, .map (some g)], .bool true]) ∧ OwnL .i64 3 w' w.heap.size v (ordP p) ∧ NMap w' g (ordP p) ∧ Below w.heap.size w w')

set_option maxHeartbeats 2000000 in
theorem orderBy_any (a : Option Addr) (c : Nat) (p : List Int) (n : Int) (w : World) (hp : RdL .i64 w a p) (n0 : 1 ≤ n) (n1 : n ≤ 1024) (hl : p.length ≤ maxLen) (hf : ∀ i, i < p.length → (Lit.int .i64 (p.getD i 0)).wf = true) :
    Calls Try.prog 37 #[.slice a p.length c, .int .i64 n] w fun e w' => ObPost p n w e w' := by
  have hmm := @run_makeMap Try.prog
  have b0 := ballo w (.cells #[.slice none 0 0, .map none] 58)
  have z0 : (w.alloc (.cells #[.slice none 0 0, .map none] 58)).cell? ⟨w.heap.size, 0, none⟩ = some (.slice none 0 0) := by simp
  have z1 : (w.alloc (.cells #[.slice none 0 0, .map none] 58)).cell? ⟨w.heap.size, 1, none⟩ = some (.map none) := by simp
  unfold maxLen at hl
  by_cases h1 : (p.length : Int) = n
  rotate_left
  · have t1 : ((p.length : Int) != n) = true := ne_t h1
    have HP : Hid (¬ IsP p n) := fun h => h1 h.1
    clear h1
    go_enter Try.func37, Try.ntmps37
    go_wp2
    refine bodyPost_ret (v := .tuple #[.agg #[.slice none 0 0, .map none], .bool false]) ?_ rfl (.inl ⟨unhide HP, rfl, b0⟩)
    simp [results, Try.results37, go_sem]
  have t1 : ((p.length : Int) != n) = false := ne_f h1
  have H1 := hide h1
  have hp0 : 0 < p.length := by omega
  have hpn : p.length ≤ 1024 := by omega
  clear h1
  by_cases h2 : p.getD 0 0 = 0
  rotate_left
  · have t2 : (p.getD 0 0 != 0) = true := ne_t h2
    have HP : Hid (¬ IsP p n) := fun h => h2 h.2.1
    obtain ⟨b, off, rfl, hc⟩ := (hp.below b0).at hp0
    have hc0 := hc 0 hp0
    rw [Nat.add_zero] at hc0
    obtain ⟨x, hx⟩ : ∃ x, x = p.getD 0 0 := ⟨_, rfl⟩
    rw [← hx] at t2 hc0
    clear h2 hc hx
    go_enter Try.func37, Try.ntmps37
    go_wp2
    refine bodyPost_ret (v := .tuple #[.agg #[.slice none 0 0, .map none], .bool false]) ?_ rfl (.inl ⟨unhide HP, rfl, b0⟩)
    simp [results, Try.results37, go_sem]
  have H2 := hide h2
  have t2 : (p.getD 0 0 != 0) = false := ne_f h2
  obtain ⟨b, off, rfl, hc⟩ := (hp.below b0).at hp0
  have hc0 := hc 0 hp0
  rw [Nat.add_zero, h2] at hc0
  have F0 : ∀ i, (w.alloc (.cells #[.slice none 0 0, .map none] 58)).frozen? ⟨w.heap.size, i, none⟩ = false := fun i => by rw [frozen?_alloc_cells]; exact frz_new w (Nat.le_refl _)
  have s0 : (w.alloc (.cells #[.slice none 0 0, .map none] 58)).heap.size = w.heap.size + 1 := by simp
  have M0 : HMap ((w.alloc (.cells #[.slice none 0 0, .map none] 58)).alloc (.map #[] 0)) (w.heap.size + 1) (p.take 0) := by
    have := World.ownsMap_made (H := Unit) (w.alloc (.cells #[.slice none 0 0, .map none] 58)) Try.prog 3 (plainElem Try.prog 3)
    rw [s0] at this
    exact ⟨0, _, this, Nat.zero_le _, Held.nil⟩
  have HM0 := hide M0
  have HF := hide hf
  clear h2 t2 hc M0 hf
  go_enter Try.func37, Try.ntmps37
  go_wp2
  go_loopw [27] (fun a wx => ∃ j : Nat, j ≤ p.length ∧ a = .int .i64 j ∧ HMap wx (w.heap.size + 1) (p.take j) ∧ Below (w.heap.size + 1) (w.alloc (.cells #[.slice none 0 0, .map none] 58)) wx) (fun a _ => p.length - (intOf a).toNat)
  case atStart => exact ⟨0, Nat.zero_le _, rfl, unhide HM0, (Below.refl _ _).alloc (by simp) _⟩
  case round =>
    obtain ⟨j, hj, rfl, hM, hd⟩ := hrel
    clear HM0 hc0
    by_cases hlt : j < p.length
    · have bb := b0.trans (hd.mono (by omega))
      obtain ⟨b', off', e, hcc⟩ := (hp.below bb).at hlt
      cases e
      have hcj := hcc j hlt
      have hfj := unhide HF j hlt
      have HT := hide (take_snoc hlt)
      obtain ⟨x, hx⟩ : ∃ x, x = p.getD j 0 := ⟨_, rfl⟩
      rw [← hx] at hcj hfj HT
      have hlt' : (j : Int) < (p.length : Int) := by omega
      obtain ⟨n', D, hown, hnl, hsay⟩ := hM
      have hlj : (p.take j).length = j := by rw [List.length_take]; omega
      have hkey : keyOf Try.prog 3 (.int .i64 x) = some (.int .i64 x) := keyOf_int_mk Try.underlying3 hfj
      clear hcc hx
      go_wp2_with (at_mapUpdate; refine wpList_mapUpdate_own _ rfl _ _ _ 56 rfl 3 3 keyed64 Try.underlying56 _ (w.heap.size + 1) n' D rfl hown (by unfold maxLen; omega) _ _ _ rfl rfl hkey _ [] (plainElem_int Try.underlying3 (WalkArith.wf_i64 (n := (j : Int)) (by omega))) ?_; intro w1 hown1 hgrow1)
      go_roundw
      case rel =>
        refine ⟨j + 1, by omega, by go_num, ⟨n' + 1, _, hown1, by simp only [List.length_take]; omega, ?_⟩, hd.grown hgrow1 (by have := hd.size; omega) (fun k hk => by cases hk; exact Nat.le_refl _)⟩
        rw [unhide HT]
        have := hsay.put hown.isMap (keyed64.key hkey)
        rw [hlj] at this
        exact this
      case measure => simp [intOf]; omega
    · have he : j = p.length := by omega
      subst he
      rw [List.take_length] at hM
      obtain ⟨z, hz⟩ : ∃ z, z = wr.heap.size := ⟨_, rfl⟩
      have hzl := hM.lt
      rw [← hz] at hzl
      go_wp2_with fail
      refine (newOrder_any wr).mono ?_
      rintro e w1 ⟨rfl, hN1, hb1, hz1⟩
      rw [← hz] at hN1 hb1 hz1 ⊢
      have HZ := hide hz
      clear hz
      have O1 : Ord (w1.alloc (.cells #[.slice none 0 0, .map (some (z + 1))] 58)) z (z + 2) (z + 1) (.slice none 0 0) [] := by
        have e0 := ballo w1 (.cells #[.slice none 0 0, .map (some (z + 1))] 58)
        refine ⟨by rw [← hz1]; simp, by rw [← hz1]; simp, ?_, ?_, OwnL.nil _ _ _ _, hN1.below e0, by omega, (by intro e; cases e), (by intro e; cases e), by omega, by omega⟩
        all_goals rw [frozen?_alloc_cells]; exact frz_new w1 (by omega)
      have d1 : Below z wr (w1.alloc (.cells #[.slice none 0 0, .map (some (z + 1))] 58)) := hb1.alloc (by omega) _
      have HO := hide O1
      clear O1 hN1 hb1
      go_wp2
      go_loopw [38] (fun a wx => ∃ (i : Nat) (v : Value) (S : List Int), (i : Int) ≤ n ∧ a = .int .i64 i ∧ Hid (S.length = i) ∧ Inv p S ∧ Ord wx z (z + 2) (z + 1) v S ∧ Below z wr wx) (fun a _ => n.toNat - (intOf a).toNat)
      case atStart => exact ⟨0, _, [], by omega, rfl, hide rfl, Inv.nil p, unhide HO, d1⟩
      case round =>
        obtain ⟨i, v, S, hin, rfl, hSl, hI, hO, hdz⟩ := hrel
        clear HO
        have dd := hd.trans (hdz.mono (by omega))
        have x0 : wr.cell? ⟨w.heap.size, 0, none⟩ = some (.slice none 0 0) := (dd.cell (by simp)).trans z0
        have x1 : wr.cell? ⟨w.heap.size, 1, none⟩ = some (.map none) := (dd.cell (by simp)).trans z1
        have g0 := frz_on (F0 0) dd (Nat.lt_succ_self _)
        have g1 := frz_on (F0 1) dd (Nat.lt_succ_self _)
        have bb := b0.trans (dd.mono (by omega))
        have hMr := hM.keep (hdz.block (w.heap.size + 1) (by omega))
        have HIv := hide hI
        have HOr := hide hO
        by_cases hlt : (i : Int) < n
        · have hkey := key64 (x := (i : Int)) (by omega) (by omega)
          obtain ⟨n', D, hown, hnl, hsay⟩ := hMr
          by_cases hmem : (i : Int) ∈ p
          · have hhas : Maps.has D (.int .i64 (i : Int)) = true := by rw [(hsay i).1]; simpa using hmem
            obtain ⟨s, hs1, hs2, hs3⟩ := (hsay i).2 hmem
            have HS2 : Hid (p.getD s 0 = (S.length : Int)) := by show _ = _; rw [hs2, unhide hSl]
            have HS3 := hide hs3
            have hSn : S.length ≤ 1024 := by have := unhide hSl; omega
            clear hs2 hs3 hI hO hsay hmem hM
            go_wp2_with (at_lookup; refine wpList_lookup_own_ok_int _ rfl _ _ 56 rfl 3 3 .i64 keyed64 Try.underlying56 Try.underlying3 (zeroInt _) (w.heap.size + 1) n' D rfl hown _ _ rfl hkey ?_; intro cc hat hwc; rw [hhas]; have HCC : Hid (cc = (s : Int)) := (by have h3 := unhide HS3; rw [hat] at h3; cases h3; exact rfl))
            have hcc0 : 0 ≤ cc := by rw [unhide HCC]; omega
            have hcc1 : cc ≤ 1024 := by rw [unhide HCC]; omega
            refine (add_new (z + 2) (z + 1) v S z cc wr (unhide HOr) (by rw [unhide HCC]; exact (unhide HIv).new (unhide HS2)) (by omega) (by omega) (by omega)).mono ?_
            rintro e w4 ⟨rfl, ⟨v4, O4, -⟩, hb4, -⟩
            have HI4 : Hid (Inv p (S ++ [cc])) := by rw [unhide HCC]; exact (unhide HIv).snoc hs1 (unhide HS2)
            clear hat
            go_wp2
            go_roundw
            case rel => exact ⟨i + 1, v4, S ++ [cc], by omega, by go_num, (by show _ = _; rw [List.length_append, List.length_singleton, unhide hSl]), unhide HI4, O4, hdz.trans hb4⟩
            case measure => simp [intOf]; omega
          · have hhas : Maps.has D (.int .i64 (i : Int)) = false := by rw [(hsay i).1]; simpa using hmem
            have HP : Hid (¬ IsP p n) := fun h => hmem (h.2.2 i hlt)
            clear hI hO hsay hmem hM
            go_wp2_with (at_lookup; refine wpList_lookup_own_ok_int _ rfl _ _ 56 rfl 3 3 .i64 keyed64 Try.underlying56 Try.underlying3 (zeroInt _) (w.heap.size + 1) n' D rfl hown _ _ rfl hkey ?_; intro cc hat hwc; rw [hhas])
            have y0 : ((wr.setCell ⟨w.heap.size, 0, none⟩ (.slice none 0 0)).setCell ⟨w.heap.size, 1, none⟩ (.map none)).cell? ⟨w.heap.size, 0, none⟩ = some (.slice none 0 0) := by
              rw [World.cell?_setCell_other (a := ⟨w.heap.size, 1, none⟩) (b := ⟨w.heap.size, 0, none⟩) (h := fun e => by cases e)]; exact World.cell?_setCell_same _ _ _ x0
            have y1 : ((wr.setCell ⟨w.heap.size, 0, none⟩ (.slice none 0 0)).setCell ⟨w.heap.size, 1, none⟩ (.map none)).cell? ⟨w.heap.size, 1, none⟩ = some (.map none) := by
              refine World.cell?_setCell_same _ _ _ (u := .map none) ?_
              rw [World.cell?_setCell_other (a := ⟨w.heap.size, 0, none⟩) (b := ⟨w.heap.size, 1, none⟩) (h := fun e => by cases e)]; exact x1
            have by1 := (bb.setCell (p := ⟨w.heap.size, 0, none⟩) (Nat.le_refl _) (.slice none 0 0)).setCell (p := ⟨w.heap.size, 1, none⟩) (Nat.le_refl _) (.map none)
            generalize ((wr.setCell ⟨w.heap.size, 0, none⟩ (.slice none 0 0)).setCell ⟨w.heap.size, 1, none⟩ (.map none)) = w6 at *
            refine bodyPost_ret (v := .tuple #[.agg #[.slice none 0 0, .map none], .bool false]) ?_ rfl (.inl ⟨unhide HP, rfl, by1⟩)
            simp [results, Try.results37, go_sem, y0, y1]
        · have hin' : Hid ((S.length : Int) = n) := by show _ = _; rw [unhide hSl]; omega
          have hP := hI.isP (unhide H1) (unhide H2) (unhide hin')
          have HP := hide hP
          have hE : S = ordP p := hI.one hP (by have := unhide H1; have := unhide hin'; omega)
          subst hE
          have q0 := hO.c0
          have q1 := hO.c1
          obtain ⟨av, cv, ev, -, -, -, -, -⟩ := hO.own.shape
          subst ev
          clear hI hP hO hM hMr
          go_wp2
          have y0 : ((wr.setCell ⟨w.heap.size, 0, none⟩ (.slice av (ordP p).length cv)).setCell ⟨w.heap.size, 1, none⟩ (.map (some (z + 1)))).cell? ⟨w.heap.size, 0, none⟩ = some (.slice av (ordP p).length cv) := by
            rw [World.cell?_setCell_other (a := ⟨w.heap.size, 1, none⟩) (b := ⟨w.heap.size, 0, none⟩) (h := fun e => by cases e)]; exact World.cell?_setCell_same _ _ _ x0
          have y1 : ((wr.setCell ⟨w.heap.size, 0, none⟩ (.slice av (ordP p).length cv)).setCell ⟨w.heap.size, 1, none⟩ (.map (some (z + 1)))).cell? ⟨w.heap.size, 1, none⟩ = some (.map (some (z + 1))) := by
            refine World.cell?_setCell_same _ _ _ (u := .map none) ?_
            rw [World.cell?_setCell_other (a := ⟨w.heap.size, 0, none⟩) (b := ⟨w.heap.size, 1, none⟩) (h := fun e => by cases e)]; exact x1
          have by1 := (bb.setCell (p := ⟨w.heap.size, 0, none⟩) (Nat.le_refl _) (.slice av (ordP p).length cv)).setCell (p := ⟨w.heap.size, 1, none⟩) (Nat.le_refl _) (.map (some (z + 1)))
          have K : ∀ j, j ≠ w.heap.size → ((wr.setCell ⟨w.heap.size, 0, none⟩ (.slice av (ordP p).length cv)).setCell ⟨w.heap.size, 1, none⟩ (.map (some (z + 1)))).heap[j]? = wr.heap[j]? := fun j hj => by
            rw [Below.heap_setCell _ _ _ _ (by simpa using hj), Below.heap_setCell _ _ _ _ (by simpa using hj)]
          have e1 := ((unhide HOr).own.keep fun j e => K j (by have := ((unhide HOr).own.lt e).1; omega)).mono (B' := w.heap.size) (by omega)
          have e2 := (unhide HOr).map.keep (K (z + 1) (by omega))
          clear K HOr
          generalize ((wr.setCell ⟨w.heap.size, 0, none⟩ (.slice av (ordP p).length cv)).setCell ⟨w.heap.size, 1, none⟩ (.map (some (z + 1)))) = w6 at *
          refine bodyPost_ret (v := .tuple #[.agg #[.slice av (ordP p).length cv, .map (some (z + 1))], .bool true]) ?_ rfl (.inr ⟨unhide HP, _, _, rfl, e1, e2, by1⟩)
          simp [results, Try.results37, go_sem, y0, y1]

end Go.Proofs.Ytdlcbjbcehpooaa
