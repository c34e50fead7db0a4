/-
  The law BlockRefines, walked: it returns true, whatever the numbers and the lists.
-/
import Derived.Test.YtnakadlhafggkaaQBoth
import Derived.Test.YtnakadlhafggkaaQSorted
import Derived.Test.YtnakadlhafggkaaQMuch
import Derived.Test.YtnakadlhafggkaaArgLL
namespace Go.Proofs.Ytnakadlhafggkaa
open Go.RowKit

theorem filter_lt (c : Nat → Nat) (k : Nat) : ∀ l : List Nat, (l.filter fun x => decide (c x < k + 1)).length = (l.filter fun x => decide (c x < k)).length + (l.filter fun x => decide (c x = k)).length
  | [] => rfl
  | x :: l => by
    have ih := filter_lt c k l
    simp only [List.filter_cons]
    by_cases h1 : c x < k
    · have h2 : c x < k + 1 := by omega
      have h3 : ¬ c x = k := by omega
      simp only [decide_eq_true h1, decide_eq_true h2, decide_eq_false h3]
      simp
      omega
    · by_cases h3 : c x = k
      · have h2 : c x < k + 1 := by omega
        simp only [decide_eq_false h1, decide_eq_true h2, decide_eq_true h3]
        simp
        omega
      · have h2 : ¬ c x < k + 1 := by omega
        simp only [decide_eq_false h1, decide_eq_false h2, decide_eq_false h3]
        simp
        omega
/-- How many are in the classes below k. -/
def smT (n : Nat) (c : Nat → Nat) (k : Nat) : Nat := ((List.range n).filter fun x => decide (c x < k)).length
theorem smT_zero (n : Nat) (c : Nat → Nat) : smT n c 0 = 0 := by
  unfold smT
  rw [List.length_eq_zero_iff, List.filter_eq_nil_iff]
  intro x _; simp
theorem smT_next (n : Nat) (c : Nat → Nat) (k : Nat) : smT n c (k + 1) = smT n c k + (mems n c k).length := by
  unfold smT mems
  rw [List.length_map]
  exact filter_lt c k _
theorem smT_le (n : Nat) (c : Nat → Nat) (k : Nat) : smT n c k ≤ n := by
  unfold smT
  have := List.length_filter_le (fun x => decide (c x < k)) (List.range n)
  rwa [List.length_range] at this
theorem smT_all {n K : Nat} {c : Nat → Nat} (h : ∀ x, x < n → c x < K) : smT n c K = n := by
  unfold smT
  rw [List.filter_eq_self.2 (fun x hx => decide_eq_true (h x (List.mem_range.1 hx))), List.length_range]
/-- After a split two numbers are in one class just if they were, and both or none are in the list. -/
theorem st_iff {n : Nat} {s s4 : St} {l : List Int} (I : PI n s) (ok : okL (tab n s.c).length l = true) (hc : tab n s4.c = stC (tab n s.c) l s.K) {i k : Nat} (hi : i < n) (hk : k < n) : s4.c i = s4.c k ↔ s.c i = s.c k ∧ inB l i = inB l k := by
  have e1 := (st_yes (K := s.K) ok).1
  rw [e1] at hc
  have h := sp_iff (l := l) I.part (i := i) (k := k) (by rw [tab_len]; exact hi) (by rw [tab_len]; exact hk)
  have ei : ((s4.c i : Nat) : Int) = spTo (tab n s.c) l s.K s.K i := by rw [← tab_at s4.c hi, hc, spC_at (by rw [tab_len]; exact hi)]
  have ek : ((s4.c k : Nat) : Int) = spTo (tab n s.c) l s.K s.K k := by rw [← tab_at s4.c hk, hc, spC_at (by rw [tab_len]; exact hk)]
  rw [← ei, ← ek, tab_at _ hi, tab_at _ hk] at h
  constructor
  · intro e; have := h.1 (by omega); exact ⟨by omega, this.2⟩
  · rintro ⟨e, g⟩; have := h.2 ⟨by omega, g⟩; omega
theorem inB_take {l : List Int} {i j : Nat} (hj : j < l.length) : decide (((i : Nat) : Int) ∈ l.take (j + 1)) = (decide (((i : Nat) : Int) ∈ l.take j) || (l.getD j 0 == ((i : Nat) : Int))) := by
  have e : l.take (j + 1) = l.take j ++ [l.getD j 0] := by
    rw [List.take_add_one, List.getD, List.getElem?_eq_getElem hj]; rfl
  rw [e]
  apply Bool.eq_iff_iff.2
  rw [decide_eq_true_iff, List.mem_append, List.mem_singleton, Bool.or_eq_true, decide_eq_true_iff, beq_iff_eq]
  constructor
  · rintro (h | h)
    · exact .inl h
    · exact .inr h.symm
  · rintro (h | h)
    · exact .inl h
    · exact .inr h.symm

set_option maxRecDepth 100000 in
set_option maxHeartbeats 4000000 in
theorem blockRefines_walk (n : Int) (a : Option Addr) (c m : Nat) (A : Nat → Option Addr) (cp : Nat → Nat) (L : Nat → List Int) (i k : Int) (w : World) (_hn : Fits n) (h : ArgLL w a m A cp L) (_hi : Fits i) (_hk : Fits k) :
    Calls Try.prog 5 #[.int .i64 n, .slice a m c, .int .i64 i, .int .i64 k] w fun e w' => e = .returned (.bool true) ∧ Below w.heap.size w w' := by
  have HMU := hide (much_any n a c m _ (fun r => (L r).length) w h.top (fun r _ => ⟨A r, cp r, rfl⟩))
  cases hm : muchV n m (fun r => (L r).length)
  rotate_left
  · rw [hm] at HMU
    go_enter Try.func5, Try.ntmps5
    go_wp2_with fail
    refine (unhide HMU).mono ?_
    rintro e w' ⟨rfl, hw'⟩
    subst w'
    go_wp2_with (go_at_call 9; refine (live_any _).mono ?_; rintro e w' ⟨rfl, hb'⟩)
    go_ret
    exact ⟨rfl, hb'⟩
  rw [hm] at HMU
  obtain ⟨hn1, hm1, hl1⟩ := much_no hm
  have HL1 := hide hl1
  clear hm hl1
  by_cases hi0 : i < 0
  · go_enter Try.func5, Try.ntmps5
    go_wp2_with fail
    refine (unhide HMU).mono ?_
    rintro e w' ⟨rfl, hw'⟩
    subst w'
    go_wp2_with (go_at_call 9; refine (live_any _).mono ?_; rintro e w' ⟨rfl, hb'⟩)
    go_ret
    exact ⟨rfl, hb'⟩
  by_cases hk0 : k < 0
  · go_enter Try.func5, Try.ntmps5
    go_wp2_with fail
    refine (unhide HMU).mono ?_
    rintro e w' ⟨rfl, hw'⟩
    subst w'
    go_wp2_with (go_at_call 9; refine (live_any _).mono ?_; rintro e w' ⟨rfl, hb'⟩)
    go_ret
    exact ⟨rfl, hb'⟩
  by_cases hi1 : n ≤ i
  · go_enter Try.func5, Try.ntmps5
    go_wp2_with fail
    refine (unhide HMU).mono ?_
    rintro e w' ⟨rfl, hw'⟩
    subst w'
    go_wp2_with (go_at_call 9; refine (live_any _).mono ?_; rintro e w' ⟨rfl, hb'⟩)
    go_ret
    exact ⟨rfl, hb'⟩
  by_cases hk1 : n ≤ k
  · go_enter Try.func5, Try.ntmps5
    go_wp2_with fail
    refine (unhide HMU).mono ?_
    rintro e w' ⟨rfl, hw'⟩
    subst w'
    go_wp2_with (go_at_call 9; refine (live_any _).mono ?_; rintro e w' ⟨rfl, hb'⟩)
    go_ret
    exact ⟨rfl, hb'⟩
  by_cases hhi : 65536 < n
  · go_enter Try.func5, Try.ntmps5
    go_wp2_with fail
    refine (unhide HMU).mono ?_
    rintro e w' ⟨rfl, hw'⟩
    subst w'
    go_wp2_with (first
      | (go_at_call 12; refine (num_any _ _).mono ?_; rintro e w' ⟨rfl, hw'⟩; subst w')
      | (go_at_call 10; refine (new_high _ _ hhi).mono ?_; rintro e w' ⟨rfl, hw'⟩; subst w')
      | (go_at_call 9; refine (live_any _).mono ?_; rintro e w' ⟨rfl, hb'⟩))
    go_ret
    exact ⟨rfl, hb'⟩
  obtain ⟨N, rfl⟩ := Int.eq_ofNat_of_zero_le (show 0 ≤ n by omega)
  obtain ⟨ii, rfl⟩ := Int.eq_ofNat_of_zero_le (show 0 ≤ i by omega)
  obtain ⟨kk, rfl⟩ := Int.eq_ofNat_of_zero_le (show 0 ≤ k by omega)
  have hii : ii < N := by omega
  have hkk : kk < N := by omega
  have hN1 : N ≤ 200 := by omega
  have hN0 : 1 ≤ N := by omega
  clear hhi hn1 hi0 hk0 hi1 hk1
  go_enter Try.func5, Try.ntmps5
  go_wp2_with fail
  refine (unhide HMU).mono ?_
  rintro e w' ⟨rfl, hw'⟩
  subst w'
  clear HMU
  go_wp2_with fail
  refine (new_ok N w hN0 (by omega)).mono ?_
  rintro e w1 ⟨p, gs, rfl, hpn, hplo, hpat, hb1⟩
  have O1 : Ob w w1 p gs 1 (St.start N) := Ob.of hN0 hpn hplo hpat hb1 (Below.refl _ _)
  have HO1 := hide O1
  have HPN := hide hpn
  clear O1 hpn hplo hpat hb1
  go_wp2_with (go_at_call 12; refine (num_any _ _).mono ?_; rintro e w' ⟨rfl, hw'⟩; subst w')
  go_wp2
  go_loopw [11] (fun v wx => ∃ (t gs' cap' : Nat) (s : St), t ≤ m ∧ v = .int .i64 t ∧ Ob w wx p gs' cap' s) (fun v _ => m - (intOf v).toNat)
  case atStart => exact ⟨0, gs, 1, St.start N, Nat.zero_le _, rfl, unhide HO1⟩
  case round =>
    obtain ⟨t, gs', cap', s, ht, rfl, hob⟩ := hrel
    clear HO1
    have hpb : p.n ≤ 65536 := by rw [unhide HPN]; omega
    have HOB := hide hob
    by_cases hlt : t < m
    · have A3 := all_any hob.at_ hpb
      rw [unhide HPN] at A3
      have HA3 := hide A3
      clear A3 hob
      go_wp2_with fail
      refine (unhide HA3).mono ?_
      rintro e w3 ⟨v3, rfl, hv3, hb3⟩
      have O3 := (unhide HOB).on hb3
      obtain ⟨a3, c3, ev3, -, -, -, -, -⟩ := hv3.shape
      rw [tab_len] at ev3
      subst ev3
      obtain ⟨tb, toff, eta, htc⟩ := (h.top.below O3.bl).at hlt
      have hct := htc t hlt
      have hl4 := unhide HL1 t hlt
      have S3 := split_both p gs' cap' s (A t) (cp t) (L t) w3 O3.at_ O3.pi hpb (by omega) ((h.row t hlt).below O3.bl) (fun x e hne => by
        obtain ⟨xb, xo, ex, hc⟩ := (h.row t hlt).at (i := 0) (by omega)
        rw [ex] at e
        cases e
        exact O3.no (.inl (World.block_lt_of_cell? w _ (hc 0 (by omega)))))
      have v3no : ∀ b, (Value.slice a3 N c3).ownBlock = some b → ¬ p.has gs' b := fun b e => (unhide HOB).no (.inr (hv3.lt e).1)
      have HO3 := hide O3
      have HS3 := hide S3
      have HV3 := hide hv3
      have HV3N := hide v3no
      clear O3 S3 hv3 v3no hb3 HA3 htc HOB
      subst eta
      go_wp2_with fail
      refine (unhide HS3).mono ?_
      rintro e w4 ⟨gs4, cap4, s4, v4, rfl, hp4⟩
      have O4 := (unhide HO3).both hp4
      have hv3' := (unhide HV3).bx hp4.bx (unhide HV3N)
      have hI := (unhide HO3).pi
      have hcc := hp4.c
      have hN := unhide HPN
      rw [hN] at hcc hI
      rw [hN]
      have A4 := all_any O4.at_ hpb
      rw [hN] at A4
      have HA4 := hide A4
      have HO4 := hide O4
      have HV3' := hide hv3'
      have HII := hide hI
      have HCC := hide hcc
      obtain ⟨a4, c4, ev4, -, -, -, -, -⟩ := hp4.own.shape
      subst ev4
      clear A4 O4 hv3' hI hcc hp4 HO3 HS3 HV3 HV3N hN
      generalize stM (tab p.n s.c) (L t) s.K = MM at *
      generalize her : stE (tab N s.c) (L t) = er at *
      have HER := hide her
      clear her
      go_wp2_with fail
      refine (unhide HA4).mono ?_
      rintro e w5 ⟨v5, rfl, hv5, hb5⟩
      have O5 := (unhide HO4).on hb5
      obtain ⟨a5, c5, ev5, -, -, -, rv5, -⟩ := hv5.shape
      rw [tab_len] at ev5
      subst ev5
      obtain ⟨_, _, E3, -, -, -, rv3, -⟩ := ((unhide HV3').grown hb5).shape
      rw [tab_len] at E3
      cases E3
      have HO5 := hide O5
      have hct5 : w5.cell? ⟨tb, toff + t, none⟩ = some (.slice (A t) (L t).length (cp t)) := by
        obtain ⟨tb2, toff2, e2, htc2⟩ := (h.top.below O5.bl).at hlt
        cases e2
        exact htc2 t hlt
      have hrow5 := (h.row t hlt).below O5.bl
      have HROW := hide hrow5
      have eNN : (((N : Nat) : Int) != ((N : Nat) : Int)) = false := by simp
      clear O5 hv5 hb5 HA4 HO4 HV3' hct hrow5
      cases hok : okL (tab N s.c).length (L t)
      · obtain ⟨e1, -, -, e4⟩ := st_no (K := s.K) hok
        have er1 : er = 1 := by rw [← unhide HER]; exact e4
        have ecc : tab N s4.c = tab N s.c := by rw [unhide HCC]; exact e1
        subst er1
        have SA := same_list a3 a5 c3 c5 (tab N s.c) (tab N s.c) w5 rv3 (by rw [← ecc]; exact rv5) (by rw [tab_len]; unfold maxLen; omega)
        rw [tab_len, show decide (tab N s.c = tab N s.c) = true from decide_eq_true rfl] at SA
        have HSA := hide SA
        clear SA hok e1 e4 ecc HER HCC HII rv3 rv5
        go_wp2_with (first
          | (go_at_call 12; refine (num_any _ _).mono ?_; rintro e w' ⟨rfl, hw'⟩; subst w')
          | (go_at_call 16; refine (unhide HSA).mono ?_; rintro e w6 ⟨rfl, hb6⟩))
        go_roundw
        case rel => exact ⟨t + 1, gs4, cap4, s4, by omega, by go_num, (unhide HO5).on hb6⟩
        case measure => simp [intOf]; omega
      · have er0 : er = 0 := by rw [← unhide HER]; exact (st_yes (K := s.K) hok).2.2.2
        subst er0
        have HIF := hide (st_iff (unhide HII) hok (unhide HCC) hii hkk)
        obtain ⟨b3, o3, E3, h3c⟩ := rv3.at (i := ii) (by rw [tab_len]; exact hii)
        obtain ⟨b5, o5, E5, h5c⟩ := rv5.at (i := ii) (by rw [tab_len]; exact hii)
        have wi := h3c ii (by rw [tab_len]; exact hii)
        have wk := h3c kk (by rw [tab_len]; exact hkk)
        have ni := h5c ii (by rw [tab_len]; exact hii)
        have nk := h5c kk (by rw [tab_len]; exact hkk)
        rw [tab_at _ hii] at wi ni
        rw [tab_at _ hkk] at wk nk
        subst E3
        subst E5
        clear hok HER HCC HII rv3 rv5 h3c h5c
        go_wp2_with (go_at_call 12; refine (num_any _ _).mono ?_; rintro e w' ⟨rfl, hw'⟩; subst w')
        go_wp2
        go_loop [16, 17, 18] (fun x y z => ∃ j : Nat, j ≤ (L t).length ∧ z = .int .i64 j ∧ x = .bool (decide (((ii : Nat) : Int) ∈ (L t).take j)) ∧ y = .bool (decide (((kk : Nat) : Int) ∈ (L t).take j))) (fun _ _ z => (L t).length - (intOf z).toNat)
        case atStart => exact ⟨0, Nat.zero_le _, rfl, by simp, by simp⟩
        case round =>
          obtain ⟨j, hj, rfl, rfl, rfl⟩ := hrel
          by_cases hjl : j < (L t).length
          · obtain ⟨lb, lo, el, hlc⟩ := (unhide HROW).at hjl
            have hlj := hlc j hjl
            have H1 := hide (inB_take (i := ii) hjl)
            have H2 := hide (inB_take (i := kk) hjl)
            rw [el] at hct5
            clear hlc el
            generalize (L t).getD j 0 = x at *
            generalize decide (((ii : Nat) : Int) ∈ (L t).take j) = bi at *
            generalize decide (((kk : Nat) : Int) ∈ (L t).take j) = bo at *
            cases t1 : (x == ((ii : Nat) : Int)) <;> cases t2 : (x == ((kk : Nat) : Int)) <;> cases bi <;> cases bo
            all_goals (rw [t1] at H1; rw [t2] at H2; go_wp2; go_round; (case rel => exact ⟨j + 1, by omega, by go_num, by rw [unhide H1]; rfl, by rw [unhide H2]; rfl⟩); (case measure => simp [intOf]; omega))
          · obtain rfl : j = (L t).length := by omega
            rw [List.take_length]
            have HIF' : Hid (s4.c ii = s4.c kk ↔ s.c ii = s.c kk ∧ decide (((ii : Nat) : Int) ∈ L t) = decide (((kk : Nat) : Int) ∈ L t)) := unhide HIF
            clear HIF HROW
            generalize decide (((ii : Nat) : Int) ∈ L t) = bi at *
            generalize decide (((kk : Nat) : Int) ∈ L t) = bo at *
            generalize s4.c ii = ni' at *
            generalize s4.c kk = nk' at *
            generalize s.c ii = wi' at *
            generalize s.c kk = wk' at *
            by_cases hab : wi' = wk'
            · have tw : (((wi' : Nat) : Int) == ((wk' : Nat) : Int)) = true := beq_iff_eq.2 (by omega)
              cases bi
              · cases bo
                · have tn : (((ni' : Nat) : Int) == ((nk' : Nat) : Int)) = true := beq_iff_eq.2 (by have := (unhide HIF').2 ⟨hab, rfl⟩; omega)
                  clear hab HIF'
                  go_wp2
                  go_quiet (fail)
                  go_wp2
                  go_roundw
                  case rel => exact ⟨t + 1, gs4, cap4, s4, by omega, by go_num, (unhide HO5).on (below_drewN (Below.refl _ _) _)⟩
                  case measure => simp [intOf]; omega
                · have tn : (((ni' : Nat) : Int) == ((nk' : Nat) : Int)) = false := beq_eq_false_iff_ne.2 (fun e => by have := ((unhide HIF').1 (by omega)).2; cases this)
                  clear hab HIF'
                  go_wp2
                  go_quiet (fail)
                  go_wp2
                  go_roundw
                  case rel => exact ⟨t + 1, gs4, cap4, s4, by omega, by go_num, (unhide HO5).on (below_drewN (Below.refl _ _) _)⟩
                  case measure => simp [intOf]; omega
              · cases bo
                · have tn : (((ni' : Nat) : Int) == ((nk' : Nat) : Int)) = false := beq_eq_false_iff_ne.2 (fun e => by have := ((unhide HIF').1 (by omega)).2; cases this)
                  clear hab HIF'
                  go_wp2
                  go_quiet (fail)
                  go_wp2
                  go_roundw
                  case rel => exact ⟨t + 1, gs4, cap4, s4, by omega, by go_num, (unhide HO5).on (below_drewN (Below.refl _ _) _)⟩
                  case measure => simp [intOf]; omega
                · have tn : (((ni' : Nat) : Int) == ((nk' : Nat) : Int)) = true := beq_iff_eq.2 (by have := (unhide HIF').2 ⟨hab, rfl⟩; omega)
                  clear hab HIF'
                  go_wp2
                  go_quiet (fail)
                  go_wp2
                  go_roundw
                  case rel => exact ⟨t + 1, gs4, cap4, s4, by omega, by go_num, (unhide HO5).on (below_drewN (Below.refl _ _) _)⟩
                  case measure => simp [intOf]; omega
            · have tw : (((wi' : Nat) : Int) == ((wk' : Nat) : Int)) = false := beq_eq_false_iff_ne.2 (by omega)
              have tn : (((ni' : Nat) : Int) == ((nk' : Nat) : Int)) = false := beq_eq_false_iff_ne.2 (fun e => hab ((unhide HIF').1 (by omega)).1)
              clear hab HIF'
              go_wp2
              go_quiet (fail)
              go_wp2
              go_roundw
              case rel => exact ⟨t + 1, gs4, cap4, s4, by omega, by go_num, (unhide HO5).on (below_drewN (Below.refl _ _) _)⟩
              case measure => simp [intOf]; omega
    · obtain rfl : t = m := by omega
      have hN := unhide HPN
      have hsK := hob.pi.Kn
      have hcc : ∀ x, x < N → s.c x < s.K := fun x hx => hob.pi.cc x (by rw [hN]; exact hx)
      have HCC := hide hcc
      have hall := smT_all hcc
      have HALL := hide hall
      clear hob hcc hall hlt
      go_wp2
      go_loopw [19, 20] (fun u v wx => ∃ q : Nat, q ≤ s.K ∧ v = .int .i64 q ∧ u = .int .i64 ((smT N s.c q : Nat) : Int) ∧ Ob w wx p gs' cap' s) (fun _ v _ => s.K - (intOf v).toNat)
      case atStart => exact ⟨0, Nat.zero_le _, rfl, by rw [smT_zero]; rfl, unhide HOB⟩
      case round =>
        obtain ⟨q, hq, rfl, rfl, hob⟩ := hrel
        clear HOB
        have CN := count_any hob.at_
        have HCN := hide CN
        have HOB := hide hob
        by_cases hlt : q < s.K
        · have MM := members_ok hob.at_ hob.pi hpb hlt
          rw [hN] at MM
          have HMM := hide MM
          have hsl := smT_le N s.c q
          have hsn := smT_next N s.c q
          have hsl2 := smT_le N s.c (q + 1)
          have hne : 0 < (mems N s.c q).length := by
            obtain ⟨k1, k2⟩ := hob.pi.sp q hlt
            have h1 := (hob.pi.rr (s.b q) (by omega)).1
            have h2 := hob.pi.off q hlt (s.b q) (Nat.le_refl _) k1
            exact List.length_pos_of_mem (mems_mem.2 ⟨_, rfl, by omega, h2⟩)
          have hml := mems_len N s.c q
          have HSN := hide hsn
          have hne' : (((mems N s.c q).length : Int) == 0) = false := beq_eq_false_iff_ne.2 (by omega)
          clear CN MM hob hsn
          go_wp2_with fail
          refine (unhide HCN).mono ?_
          rintro e w' ⟨rfl, hw'⟩
          subst w'
          clear HCN
          go_wp2_with fail
          refine (unhide HMM).mono ?_
          rintro e w3 ⟨v3, rfl, hv3, hb3⟩
          have O3 := (unhide HOB).on hb3
          obtain ⟨a3, c3, ev3, -, -, -, rv3, -⟩ := hv3.shape
          subst ev3
          have HO3 := hide O3
          have HCL := hide (fun (x : Nat) (hx : x < p.n) => class_ok O3.at_ (i := x) hx)
          clear O3 hv3 hb3 HMM HOB
          have HRV := hide rv3
          clear rv3
          generalize hln : (mems N s.c q).length = ln at *
          have HLN := hide hln
          clear hln
          go_wp2_with (go_at_call 12; refine (num_any _ _).mono ?_; rintro e w' ⟨rfl, hw'⟩; subst w')
          go_wp2
          go_loop [23] (fun v => ∃ x : Nat, x ≤ ln ∧ v = .int .i64 x) (fun v => ln - (intOf v).toNat)
          case atStart => exact ⟨0, Nat.zero_le _, rfl⟩
          case round =>
            obtain ⟨x, hx, rfl⟩ := hrel
            by_cases hxl : x < ln
            · obtain ⟨mb, mo, em, hmc⟩ := (unhide HRV).at (i := x) (by rw [unhide HLN]; exact hxl)
              have hmx := hmc x (by rw [unhide HLN]; exact hxl)
              obtain ⟨y, ey, hyn, hyc⟩ := mems_mem.1 (gd_mem (l := mems N s.c q) (i := x) (by rw [unhide HLN]; exact hxl))
              rw [ey] at hmx
              have CL := unhide HCL y (by rw [hN]; exact hyn)
              rw [hyc] at CL
              have HC := hide CL
              subst em
              have eqq : (((q : Nat) : Int) != ((q : Nat) : Int)) = false := by simp
              clear hmc CL ey hyc
              go_wp2_with fail
              refine (unhide HC).mono ?_
              rintro e w' ⟨rfl, hw'⟩
              subst w'
              clear HC
              go_wp2_with (go_at_call 12; refine (num_any _ _).mono ?_; rintro e w' ⟨rfl, hw'⟩; subst w')
              go_round
              case rel => exact ⟨x + 1, by omega, by go_num⟩
              case measure => simp [intOf]; omega
            · go_wp2
              go_roundw
              case rel => exact ⟨q + 1, by omega, by go_num, by rw [unhide HSN]; go_num, unhide HO3⟩
              case measure => simp [intOf]; omega
        · obtain rfl : q = s.K := by omega
          rw [unhide HALL]
          have eNN : (((N : Nat) : Int) == ((N : Nat) : Int)) = true := by simp
          clear CN hob
          go_wp2_with fail
          refine (unhide HCN).mono ?_
          rintro e w' ⟨rfl, hw'⟩
          subst w'
          clear HCN
          go_wp2_with (go_at_call 9; refine (live_any _).mono ?_; rintro e w' ⟨rfl, hb'⟩)
          go_ret
          exact ⟨rfl, bstep (unhide HOB).bl hb'⟩
end Go.Proofs.Ytnakadlhafggkaa
