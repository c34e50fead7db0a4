/-
  The law PointWords, walked: it returns true, whatever comes in.
-/
import Derived.Test.YtaldjpjlggnhhaaJWords
import Derived.Test.YtaldjpjlggnhhaaArg
namespace Go.Proofs.Ytaldjpjlggnhhaa
set_option linter.unusedVariables false
open Go.RowKit

theorem lent_up {w w' : World} {g n cap B : Nat} {f : Nat → Int} (h : Lent w g n cap f) (hg : g < B) (hb : Below B w w') : Lent w' g n cap f :=
  ⟨h.room, h.le, fun i hi => by rw [hb.cell (by exact hg)]; exact h.cell i hi, by rw [hb.cell (by exact hg)]; exact h.m1, by rw [hb.cell (by exact hg)]; exact h.m2⟩
theorem both_fam {w W : World} {B s3 s4 s5 n : Nat} {va vb : Nat → Value} {fa fb : Nat → Nat → Int}
    (Fa : Fam w B n va (fun i => i + 1) fa) (ra : ∀ i, i < n → ∀ b, (va i).ownBlock = some b → s3 ≤ b ∧ b < s4)
    (Fb : Fam w B n vb (fun i => i + 1) fb) (rb : ∀ i, i < n → ∀ b, (vb i).ownBlock = some b → s4 ≤ b ∧ b < s5) (hg : w.grownBy W none) (h45 : s4 ≤ s5) (h5 : s5 ≤ w.heap.size) :
    Fam W B (n + n) (joinV n va vb) (fun i => if i < n then i + 1 else i - n + 1) (fun i => if i < n then fa i else fb (i - n)) ∧ ∀ i, i < n + n → ∀ b, (joinV n va vb i).ownBlock = some b → b < w.heap.size := by
  refine ⟨⟨fun i hi => ?_, fun i j hi hj hne b e1 e2 => ?_⟩, fun i hi b e => ?_⟩
  · by_cases c : i < n
    · simp only [joinV_lt c, if_pos c]
      exact (Fa.own i c).keep fun b e => hg.block b (by have := ra i c b e; have := rb; omega) (by simp)
    · simp only [joinV_ge (Nat.le_of_not_lt c), if_neg c]
      exact (Fb.own (i - n) (by omega)).keep fun b e => hg.block b (by have := rb (i - n) (by omega) b e; omega) (by simp)
  · by_cases c : i < n <;> by_cases d : j < n
    · rw [joinV_lt c] at e1; rw [joinV_lt d] at e2; exact Fa.apart i j c d hne b e1 e2
    · rw [joinV_lt c] at e1; rw [joinV_ge (Nat.le_of_not_lt d)] at e2
      have := ra i c b e1; have := rb (j - n) (by omega) b e2; omega
    · rw [joinV_ge (Nat.le_of_not_lt c)] at e1; rw [joinV_lt d] at e2
      have := ra j d b e2; have := rb (i - n) (by omega) b e1; omega
    · rw [joinV_ge (Nat.le_of_not_lt c)] at e1; rw [joinV_ge (Nat.le_of_not_lt d)] at e2
      exact Fb.apart (i - n) (j - n) (by omega) (by omega) (by omega) b e1 e2
  · by_cases c : i < n
    · rw [joinV_lt c] at e; exact ((Fa.own i c).lt e).2
    · rw [joinV_ge (Nat.le_of_not_lt c)] at e; exact ((Fb.own (i - n) (by omega)).lt e).2

theorem rdV_cell {w : World} {b off n : Nat} {vs : Nat → Value} (h : RdV w (some ⟨b, off, none⟩) n vs) {j : Nat} {u : Value} (hj : (cellsV n vs)[j]? = some u) : w.cell? ((⟨b, off, none⟩ : Addr).add j) = some u := by
  have hjm : j < n := by
    have := (List.getElem?_eq_some_iff.1 hj).1
    rwa [length_cellsV] at this
  rw [cellsV_get hjm] at hj
  obtain ⟨b', off', e, hc⟩ := h.at hjm
  cases e
  rw [← hj, add_at]
  exact hc j hjm

set_option maxHeartbeats 4000000 in
set_option maxRecDepth 100000 in
theorem pointWords_walk (a0 : Option Addr) (n c0 : Nat) (f0 : Nat → Int) (w : World) (h0 : Arg w a0 n c0 f0) :
    Calls Try.prog 7 #[.slice a0 n c0] w fun e w' => e = .returned (.bool true) ∧ Below w.heap.size w w' := by
  have hm0 := h0.max
  unfold maxLen at hm0
  by_cases l0 : 300 < n
  · go_enter Try.func7, Try.ntmps7
    go_wp2_with (go_at_call 11; refine (jlive_any _).mono ?_; rintro e wl ⟨rfl, hbl⟩)
    go_ret
    exact ⟨rfl, hbl⟩
  have s0 : n ≤ 300 := by omega
  clear l0 hm0
  have HA := hide h0
  have hen : a0 = none → n = 0 ∧ c0 = 0 := h0.nil
  by_cases hn : n = 0
  · subst hn
    go_enter Try.func7, Try.ntmps7
    go_wp2_with fail
    refine (lent_any a0 0 c0 f0 w h0.rd h0.nil h0.bytes).mono ?_
    rintro e w1 ⟨g, cap, rfl, L, hg, B1⟩
    have hgl := L.lt
    clear h0
    go_wp2_with fail
    refine (begs_any (some ⟨g, 0, none⟩) 0 cap f0 w1 L.rd (by have := L.room; omega) (by omega)).mono ?_
    rintro e w3 ⟨ga, oa, va, rfl, Ra, Fa, b3⟩
    have L3 := L.below b3
    have z3 := b3.size
    have RA : ∀ i, i < 0 → ∀ b, (va i).ownBlock = some b → w1.heap.size ≤ b ∧ b < w3.heap.size := fun i hi b e => (Fa.own i hi).lt e
    clear L
    go_wp2_with fail
    refine (ends_any (some ⟨g, 0, none⟩) 0 cap f0 w3 L3.rd (by have := L3.room; omega) (by omega)).mono ?_
    rintro e w4 ⟨gb, ob, vb, rfl, Rb, Fb, b4⟩
    have L4 := L3.below b4
    have z4 := b4.size
    have RB : ∀ i, i < 0 → ∀ b, (vb i).ownBlock = some b → w3.heap.size ≤ b ∧ b < w4.heap.size := fun i hi b e => (Fb.own i hi).lt e
    have Fa4 := Fa.below b4
    have Ra4 := Ra.below b4
    have B4 := bstep B1 (bstep b3 b4)
    have HRA := hide RA
    have HRB := hide RB
    have C4 := bstep b3 b4
    clear RA RB Fa Ra L3 b3 b4 B1
    go_wp2_with fail
    refine (rprefixes_any a0 0 c0 f0 w4 ((unhide HA).rd.below B4) (unhide HA).nil (unhide HA).le (by omega)).mono ?_
    intro e w5 hp
    obtain ⟨vr, vsr, rfl, Or, Fr, hb5⟩ := hp
    obtain ⟨gr, cr, rfl, hcr, hcm, -, -, hcl, -⟩ := Or.pos (by omega)
    have B5 := bstep B4 hb5
    have C5 := bstep C4 hb5
    have Fa5 := Fa4.below hb5
    have Ra5 := Ra4.below hb5
    have hl5 := fun (ad : Option Addr) (k : Nat) => lists_any (some ⟨ga, oa, none⟩) ad 0 0 k (fun _ => .slice none 0 0) (fun _ => .slice none 0 0) (fun _ => 0) (fun _ _ => 0) w5 (.inl rfl) (.inl rfl) (by unfold maxLen; omega) (fun i hi => by omega)
    have HOR := hide Or
    have HE5 := hide hb5
    clear Fr hb5 C4 B4 Fa4 Ra4 hcl Or
    by_cases hcr1 : cr = 1
    · subst hcr1
      go_wp2_with fail
      refine (hl5 _ _).mono ?_
      rintro e w6 ⟨rfl, hb6⟩
      have B6 := bstep B5 hb6
      have C6 := bstep C5 hb6
      have Fa6 := Fa5.below hb6
      have Ra6 := Ra5.below hb6
      have hb6x := hb6
      clear hl5 hb6 C5 B5 Fa5 Ra5 HOR
      go_wp2_with fail
      refine (rsuffixes_any a0 0 c0 f0 w6 ((unhide HA).rd.below B6) (unhide HA).nil (unhide HA).le (by omega)).mono ?_
      intro e w7 hp
      obtain ⟨vq, vsq, rfl, Oq, Fq, hb7⟩ := hp
      obtain ⟨gq, cq, rfl, hcq, hcqm, -, -, hcl, -⟩ := Oq.pos (by omega)
      have B7 := bstep B6 hb7
      have C7 := bstep C6 hb7
      have Fa7 := Fa6.below hb7
      have Ra7 := Ra6.below hb7
      have D7 : Below w4.heap.size w4 w7 := bstep (bstep (unhide HE5) hb6x) hb7
      have Fb7 := Fb.below D7
      have Rb7 := Rb.below D7
      have hl7 := fun (ad : Option Addr) (k : Nat) => lists_any (some ⟨gb, ob, none⟩) ad 0 0 k (fun _ => .slice none 0 0) (fun _ => .slice none 0 0) (fun _ => 0) (fun _ _ => 0) w7 (.inl rfl) (.inl rfl) (by unfold maxLen; omega) (fun i hi => by omega)
      clear Fq hb7 C6 B6 Fa6 Ra6 hcl Oq
      by_cases hcq1 : cq = 1
      · subst hcq1
        go_wp2_with fail
        refine (hl7 _ _).mono ?_
        rintro e w8 ⟨rfl, hb8⟩
        have B8 := bstep B7 hb8
        have C8 := bstep C7 hb8
        have Fa8 := Fa7.below hb8
        have Ra8 := Ra7.below hb8
        have Fb8 := Fb7.below hb8
        have Rb8 := Rb7.below hb8
        have z8 := (bstep D7 hb8).size
        have L8 := L4.below (bstep D7 hb8)
        clear hl7 hb8 C7 B7 Fa7 Ra7 Fb7 Rb7 D7 L4 Fb Rb
        go_wp2_with (at_builtin; refine wpList_append_arg _ rfl (.tmp 44) (.tmp 45) 47 rfl 42 _ (.slice none 0 0) 1 24 Try.underlying47 (info_parts infoInts).choose_spec.1 (info_parts infoInts).choose_spec.2.1 (info_parts infoInts).choose_spec.2.2.1 (info_parts infoInts).choose_spec.2.2.2 rfl (by decide) ga oa 0 0 [] rfl rfl (fun j u hj => by simp at hj) ⟨gb, ob, none⟩ 0 0 [] rfl rfl (fun j u hj => by simp at hj) (fun u hu => by simp at hu) (fun _ j hj => by simp at hj) (by unfold maxLen; omega) (by omega) (fun _ => ?_) (fun hlt => by omega); rw [show w8.setCells ga (oa + 0 * 1) [] = w8 from rfl])
        refine (apart_zero _ _ w8).mono ?_
        rintro e w9 ⟨rfl, hb9⟩
        have B9 := bstep B8 hb9
        have L9 := L8.below hb9
        clear B8 C8 L8
        go_wp2_with fail
        refine (kept_any g 0 cap c0 f0 f0 a0 w9 L9 ((unhide HA).rd.below B9) fun _ _ => rfl).mono ?_
        rintro e w17 ⟨rfl, hb17⟩
        have B17 := bstep B9 hb17
        go_wp2_with fail
        refine (jlive_any _).mono ?_
        rintro e wl ⟨rfl, hbl⟩
        have Bl := bstep B17 hbl
        go_wp2
        go_ret
        exact ⟨rfl, Bl⟩
      · go_wp2_with fail
        refine (hl7 _ _).mono ?_
        rintro e w8 ⟨rfl, hb8⟩
        have B8 := bstep B7 hb8
        have C8 := bstep C7 hb8
        have Fa8 := Fa7.below hb8
        have Ra8 := Ra7.below hb8
        have Fb8 := Fb7.below hb8
        have Rb8 := Rb7.below hb8
        have z8 := (bstep D7 hb8).size
        have L8 := L4.below (bstep D7 hb8)
        clear hl7 hb8 C7 B7 Fa7 Ra7 Fb7 Rb7 D7 L4 Fb Rb
        go_wp2_with (at_builtin; refine wpList_append_arg _ rfl (.tmp 44) (.tmp 45) 47 rfl 42 _ (.slice none 0 0) 1 24 Try.underlying47 (info_parts infoInts).choose_spec.1 (info_parts infoInts).choose_spec.2.1 (info_parts infoInts).choose_spec.2.2.1 (info_parts infoInts).choose_spec.2.2.2 rfl (by decide) ga oa 0 0 [] rfl rfl (fun j u hj => by simp at hj) ⟨gb, ob, none⟩ 0 0 [] rfl rfl (fun j u hj => by simp at hj) (fun u hu => by simp at hu) (fun _ j hj => by simp at hj) (by unfold maxLen; omega) (by omega) (fun _ => ?_) (fun hlt => by omega); rw [show w8.setCells ga (oa + 0 * 1) [] = w8 from rfl])
        refine (apart_zero _ _ w8).mono ?_
        rintro e w9 ⟨rfl, hb9⟩
        have B9 := bstep B8 hb9
        have L9 := L8.below hb9
        clear B8 C8 L8
        go_wp2_with fail
        refine (kept_any g 0 cap c0 f0 f0 a0 w9 L9 ((unhide HA).rd.below B9) fun _ _ => rfl).mono ?_
        rintro e w17 ⟨rfl, hb17⟩
        have B17 := bstep B9 hb17
        go_wp2_with fail
        refine (jlive_any _).mono ?_
        rintro e wl ⟨rfl, hbl⟩
        have Bl := bstep B17 hbl
        go_wp2
        go_ret
        exact ⟨rfl, Bl⟩
    · go_wp2_with fail
      refine (hl5 _ _).mono ?_
      rintro e w6 ⟨rfl, hb6⟩
      have B6 := bstep B5 hb6
      have C6 := bstep C5 hb6
      have Fa6 := Fa5.below hb6
      have Ra6 := Ra5.below hb6
      have hb6x := hb6
      clear hl5 hb6 C5 B5 Fa5 Ra5 HOR
      go_wp2_with fail
      refine (rsuffixes_any a0 0 c0 f0 w6 ((unhide HA).rd.below B6) (unhide HA).nil (unhide HA).le (by omega)).mono ?_
      intro e w7 hp
      obtain ⟨vq, vsq, rfl, Oq, Fq, hb7⟩ := hp
      obtain ⟨gq, cq, rfl, hcq, hcqm, -, -, hcl, -⟩ := Oq.pos (by omega)
      have B7 := bstep B6 hb7
      have C7 := bstep C6 hb7
      have Fa7 := Fa6.below hb7
      have Ra7 := Ra6.below hb7
      have D7 : Below w4.heap.size w4 w7 := bstep (bstep (unhide HE5) hb6x) hb7
      have Fb7 := Fb.below D7
      have Rb7 := Rb.below D7
      have hl7 := fun (ad : Option Addr) (k : Nat) => lists_any (some ⟨gb, ob, none⟩) ad 0 0 k (fun _ => .slice none 0 0) (fun _ => .slice none 0 0) (fun _ => 0) (fun _ _ => 0) w7 (.inl rfl) (.inl rfl) (by unfold maxLen; omega) (fun i hi => by omega)
      clear Fq hb7 C6 B6 Fa6 Ra6 hcl Oq
      by_cases hcq1 : cq = 1
      · subst hcq1
        go_wp2_with fail
        refine (hl7 _ _).mono ?_
        rintro e w8 ⟨rfl, hb8⟩
        have B8 := bstep B7 hb8
        have C8 := bstep C7 hb8
        have Fa8 := Fa7.below hb8
        have Ra8 := Ra7.below hb8
        have Fb8 := Fb7.below hb8
        have Rb8 := Rb7.below hb8
        have z8 := (bstep D7 hb8).size
        have L8 := L4.below (bstep D7 hb8)
        clear hl7 hb8 C7 B7 Fa7 Ra7 Fb7 Rb7 D7 L4 Fb Rb
        go_wp2_with (at_builtin; refine wpList_append_arg _ rfl (.tmp 44) (.tmp 45) 47 rfl 42 _ (.slice none 0 0) 1 24 Try.underlying47 (info_parts infoInts).choose_spec.1 (info_parts infoInts).choose_spec.2.1 (info_parts infoInts).choose_spec.2.2.1 (info_parts infoInts).choose_spec.2.2.2 rfl (by decide) ga oa 0 0 [] rfl rfl (fun j u hj => by simp at hj) ⟨gb, ob, none⟩ 0 0 [] rfl rfl (fun j u hj => by simp at hj) (fun u hu => by simp at hu) (fun _ j hj => by simp at hj) (by unfold maxLen; omega) (by omega) (fun _ => ?_) (fun hlt => by omega); rw [show w8.setCells ga (oa + 0 * 1) [] = w8 from rfl])
        refine (apart_zero _ _ w8).mono ?_
        rintro e w9 ⟨rfl, hb9⟩
        have B9 := bstep B8 hb9
        have L9 := L8.below hb9
        clear B8 C8 L8
        go_wp2_with fail
        refine (kept_any g 0 cap c0 f0 f0 a0 w9 L9 ((unhide HA).rd.below B9) fun _ _ => rfl).mono ?_
        rintro e w17 ⟨rfl, hb17⟩
        have B17 := bstep B9 hb17
        go_wp2_with fail
        refine (jlive_any _).mono ?_
        rintro e wl ⟨rfl, hbl⟩
        have Bl := bstep B17 hbl
        go_wp2
        go_ret
        exact ⟨rfl, Bl⟩
      · go_wp2_with fail
        refine (hl7 _ _).mono ?_
        rintro e w8 ⟨rfl, hb8⟩
        have B8 := bstep B7 hb8
        have C8 := bstep C7 hb8
        have Fa8 := Fa7.below hb8
        have Ra8 := Ra7.below hb8
        have Fb8 := Fb7.below hb8
        have Rb8 := Rb7.below hb8
        have z8 := (bstep D7 hb8).size
        have L8 := L4.below (bstep D7 hb8)
        clear hl7 hb8 C7 B7 Fa7 Ra7 Fb7 Rb7 D7 L4 Fb Rb
        go_wp2_with (at_builtin; refine wpList_append_arg _ rfl (.tmp 44) (.tmp 45) 47 rfl 42 _ (.slice none 0 0) 1 24 Try.underlying47 (info_parts infoInts).choose_spec.1 (info_parts infoInts).choose_spec.2.1 (info_parts infoInts).choose_spec.2.2.1 (info_parts infoInts).choose_spec.2.2.2 rfl (by decide) ga oa 0 0 [] rfl rfl (fun j u hj => by simp at hj) ⟨gb, ob, none⟩ 0 0 [] rfl rfl (fun j u hj => by simp at hj) (fun u hu => by simp at hu) (fun _ j hj => by simp at hj) (by unfold maxLen; omega) (by omega) (fun _ => ?_) (fun hlt => by omega); rw [show w8.setCells ga (oa + 0 * 1) [] = w8 from rfl])
        refine (apart_zero _ _ w8).mono ?_
        rintro e w9 ⟨rfl, hb9⟩
        have B9 := bstep B8 hb9
        have L9 := L8.below hb9
        clear B8 C8 L8
        go_wp2_with fail
        refine (kept_any g 0 cap c0 f0 f0 a0 w9 L9 ((unhide HA).rd.below B9) fun _ _ => rfl).mono ?_
        rintro e w17 ⟨rfl, hb17⟩
        have B17 := bstep B9 hb17
        go_wp2_with fail
        refine (jlive_any _).mono ?_
        rintro e wl ⟨rfl, hbl⟩
        have Bl := bstep B17 hbl
        go_wp2
        go_ret
        exact ⟨rfl, Bl⟩
  have hn1 : 1 ≤ n := by omega
  go_enter Try.func7, Try.ntmps7
  go_wp2_with fail
  refine (lent_any a0 n c0 f0 w h0.rd h0.nil h0.bytes).mono ?_
  rintro e w1 ⟨g, cap, rfl, L, hg, B1⟩
  have hgl := L.lt
  clear h0
  go_wp2_with fail
  refine (begs_any (some ⟨g, 0, none⟩) n cap f0 w1 L.rd (by have := L.room; omega) (by omega)).mono ?_
  rintro e w3 ⟨ga, oa, va, rfl, Ra, Fa, b3⟩
  have L3 := L.below b3
  have z3 := b3.size
  have RA : ∀ i, i < n → ∀ b, (va i).ownBlock = some b → w1.heap.size ≤ b ∧ b < w3.heap.size := fun i hi b e => (Fa.own i hi).lt e
  clear L
  go_wp2_with fail
  refine (ends_any (some ⟨g, 0, none⟩) n cap f0 w3 L3.rd (by have := L3.room; omega) (by omega)).mono ?_
  rintro e w4 ⟨gb, ob, vb, rfl, Rb, Fb, b4⟩
  have L4 := L3.below b4
  have z4 := b4.size
  have RB : ∀ i, i < n → ∀ b, (vb i).ownBlock = some b → w3.heap.size ≤ b ∧ b < w4.heap.size := fun i hi b e => (Fb.own i hi).lt e
  have Fa4 := Fa.below b4
  have Ra4 := Ra.below b4
  have B4 := bstep B1 (bstep b3 b4)
  have HRA := hide RA
  have HRB := hide RB
  have C4 := bstep b3 b4
  clear RA RB Fa Ra L3 b3 b4 B1
  go_wp2_with fail
  refine (rprefixes_any a0 n c0 f0 w4 ((unhide HA).rd.below B4) (unhide HA).nil (unhide HA).le (by omega)).mono ?_
  intro e w5 hp
  obtain ⟨vr, vsr, rfl, Or, Fr, hb5⟩ := hp
  obtain ⟨gr, cr, rfl, hcr, hcm, -, -, hcl, -⟩ := Or.pos (by omega)
  have B5 := bstep B4 hb5
  have C5 := bstep C4 hb5
  have Fa5 := Fa4.below hb5
  have Ra5 := Ra4.below hb5
  have Rr5 : RdV w5 (some ⟨gr, 1, none⟩) n (fun i => vsr (i + 1)) := .inr ⟨gr, 1, rfl, fun i hi => by rw [Nat.add_comm]; exact hcl (i + 1) (by omega)⟩
  have HV5 : Hid (∀ i, i < n → ∃ ai ci bi di, va i = .slice ai (i + 1) ci ∧ Rd w5 ai (i + 1) f0 ∧ vsr (i + 1) = .slice bi (i + 1) di ∧ Rd w5 bi (i + 1) f0 ∧ i + 1 ≤ maxLen) := fun i hi => by
    obtain ⟨ai, ci, e1, _, _, r1, _⟩ := (Fa5.own i hi).shape
    obtain ⟨bi, di, e2, _, _, r2, _⟩ := (Fr.own (i + 1) (by omega)).shape
    exact ⟨ai, ci, bi, di, e1, r1, e2, r2, by unfold maxLen; omega⟩
  have hl5 := lists_any (some ⟨ga, oa, none⟩) (some ⟨gr, 1, none⟩) n n (cr - 1) va (fun i => vsr (i + 1)) (fun i => i + 1) (fun _ => f0) w5 Ra5 Rr5 (by unfold maxLen; omega) (unhide HV5)
  have hcr1 : cr ≠ 1 := by omega
  have HOR := hide Or
  have HE5 := hide hb5
  clear Fr hb5 C4 B4 Fa4 Ra4 hcl Or
  go_wp2_with fail
  refine (hl5).mono ?_
  rintro e w6 ⟨rfl, hb6⟩
  have B6 := bstep B5 hb6
  have C6 := bstep C5 hb6
  have Fa6 := Fa5.below hb6
  have Ra6 := Ra5.below hb6
  have hb6x := hb6
  clear hl5 hb6 C5 B5 Fa5 Ra5 HOR
  go_wp2_with fail
  refine (rsuffixes_any a0 n c0 f0 w6 ((unhide HA).rd.below B6) (unhide HA).nil (unhide HA).le (by omega)).mono ?_
  intro e w7 hp
  obtain ⟨vq, vsq, rfl, Oq, Fq, hb7⟩ := hp
  obtain ⟨gq, cq, rfl, hcq, hcqm, -, -, hcl, -⟩ := Oq.pos (by omega)
  have B7 := bstep B6 hb7
  have C7 := bstep C6 hb7
  have Fa7 := Fa6.below hb7
  have Ra7 := Ra6.below hb7
  have D7 : Below w4.heap.size w4 w7 := bstep (bstep (unhide HE5) hb6x) hb7
  have Fb7 := Fb.below D7
  have Rb7 := Rb.below D7
  have Rq7 : RdV w7 (some ⟨gq, 1, none⟩) n (fun i => vsq (i + 1)) := .inr ⟨gq, 1, rfl, fun i hi => by rw [Nat.add_comm]; exact hcl (i + 1) (by omega)⟩
  have HV7 : Hid (∀ i, i < n → ∃ ai ci bi di, vb i = .slice ai (i + 1) ci ∧ Rd w7 ai (i + 1) (fun j => f0 (n - (i + 1) + j)) ∧ vsq (i + 1) = .slice bi (i + 1) di ∧ Rd w7 bi (i + 1) (fun j => f0 (n - (i + 1) + j)) ∧ i + 1 ≤ maxLen) := fun i hi => by
    obtain ⟨ai, ci, e1, _, _, r1, _⟩ := (Fb7.own i hi).shape
    obtain ⟨bi, di, e2, _, _, r2, _⟩ := (Fq.own (i + 1) (by omega)).shape
    exact ⟨ai, ci, bi, di, e1, r1, e2, r2, by unfold maxLen; omega⟩
  have hl7 := lists_any (some ⟨gb, ob, none⟩) (some ⟨gq, 1, none⟩) n n (cq - 1) vb (fun i => vsq (i + 1)) (fun i => i + 1) (fun i j => f0 (n - (i + 1) + j)) w7 Rb7 Rq7 (by unfold maxLen; omega) (unhide HV7)
  have hcq1 : cq ≠ 1 := by omega
  clear Fq hb7 C6 B6 Fa6 Ra6 hcl Oq
  go_wp2_with fail
  refine (hl7).mono ?_
  rintro e w8 ⟨rfl, hb8⟩
  have B8 := bstep B7 hb8
  have C8 := bstep C7 hb8
  have Fa8 := Fa7.below hb8
  have Ra8 := Ra7.below hb8
  have Fb8 := Fb7.below hb8
  have Rb8 := Rb7.below hb8
  have z8 := (bstep D7 hb8).size
  have L8 := L4.below (bstep D7 hb8)
  clear hl7 hb8 C7 B7 Fa7 Ra7 Fb7 Rb7 D7 L4 Fb Rb
  have hi := info_parts infoInts
  obtain ⟨ii, hi0, hi1, hi2, hi3⟩ := hi
  go_wp2_with (at_builtin; refine wpList_append_grows _ rfl (.tmp 44) (.tmp 45) 47 rfl 42 ii (.slice none 0 0) 1 24 Try.underlying47 hi0 hi1 hi2 hi3 rfl (by decide) (some ⟨ga, oa, none⟩) n n (cellsV n va) rfl (fun h => by cases h) (by rw [length_cellsV]; omega) (fun b hb j u hj => by cases hb; exact rdV_cell Ra8 hj) ⟨gb, ob, none⟩ n n (cellsV n vb) rfl (by rw [length_cellsV]; omega) (fun j u hj => rdV_cell Rb8 hj) (cellsV_one Fb8.slices) (by omega) (by unfold maxLen; omega) (by omega) ?_; intro v9 w9 O9 G9)
  have O9v : OwnV w9 w8.heap.size v9 (n + n) (joinV n va vb) := by unfold OwnV; rw [← cellsV_join]; exact O9
  have PF := both_fam (B := w1.heap.size) (fa := fun _ => f0) (fb := fun i j => f0 (n - (i + 1) + j)) Fa8 (unhide HRA) (⟨fun i hi => (Fb8.own i hi).base (by omega), Fb8.apart⟩) (unhide HRB) G9 z4 (by omega)
  have z9 := G9.size
  have D9 : Below w8.heap.size w8 w9 := (Below.refl _ _).grown G9 (Nat.le_refl _) fun k e => by cases e
  refine (apart_any w1.heap.size (n + n) v9 (joinV n va vb) _ _ w9 (O9v.base (by omega)) PF.1 (fun b e i hi e2 => by have := (O9v.lt e).1; have := PF.2 i hi b e2; omega) (by omega) (by omega) (fun i hi => by split <;> omega)).mono ?_
  rintro e w10 ⟨rfl, hb10⟩
  have L10 := lent_up (L8.below D9) hgl hb10
  have B9 : Below w.heap.size w w10 := (bstep B8 D9).trans (hb10.mono (by have := hg; omega))
  have L9 := L10
  clear B8 C8 L8
  go_wp2_with fail
  refine (kept_any g n cap c0 f0 f0 a0 w10 L9 ((unhide HA).rd.below B9) fun _ _ => rfl).mono ?_
  rintro e w17 ⟨rfl, hb17⟩
  have B17 := bstep B9 hb17
  go_wp2_with fail
  refine (jlive_any _).mono ?_
  rintro e wl ⟨rfl, hbl⟩
  have Bl := bstep B17 hbl
  go_wp2
  go_ret
  exact ⟨rfl, Bl⟩

end Go.Proofs.Ytaldjpjlggnhhaa
