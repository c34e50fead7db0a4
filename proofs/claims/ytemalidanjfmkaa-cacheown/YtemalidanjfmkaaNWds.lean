/-
  The program's Words.
-/
import Derived.Test.YtemalidanjfmkaaNSpl
import Derived.Test.YtemalidanjfmkaaNObj
import Derived.Test.YtemalidanjfmkaaK7
namespace Go.Proofs.Ytemalidanjfmkaa
open Go.RowKit

theorem gdl_left {V : List (List Int)} {l : List Int} {i : Nat} (h : i < V.length) : (V ++ [l]).getD i [] = V.getD i [] := by
  rw [List.getD_eq_getElem?_getD, List.getD_eq_getElem?_getD, List.getElem?_append_left h]
theorem gdl_new {V : List (List Int)} {l : List Int} : (V ++ [l]).getD V.length [] = l := by simp
/-- A list behind the lists. -/
theorem LLs.add {w wr w2 w4 : World} {v v' u : Value} {vs : Nat → Value} {V : List (List Int)} {l : List Int} (h : LLs wr w.heap.size v vs V) (hbl : Below w.heap.size w wr) (hu : OwnL .i64 3 w2 wr.heap.size u l) (hb : Below wr.heap.size wr w2) (o : Obj)
    (ho : OwnV w4 w.heap.size v' (V.length + 1) (joinV V.length vs fun _ => u)) (hg : (w2.alloc o).grownBy w4 v.ownBlock) (hv : ∀ b, v'.ownBlock = some b → v.ownBlock = some b ∨ (w2.alloc o).heap.size ≤ b) : LLs w4 w.heap.size v' (joinV V.length vs fun _ => u) (V ++ [l]) ∧ Below w.heap.size w w4 := by
  have I : RPInv w V.length (nsV (V ++ [l])) (fsV (V ++ [l])) wr v vs := ⟨h.out, ⟨fun i hi => by
    have := h.fam.own i hi
    unfold nsV fsV at this ⊢
    rw [gdl_left hi]; exact this, h.fam.apart⟩, h.ap, hbl⟩
  have hu2 : Own w2 wr.heap.size u (nsV (V ++ [l]) V.length) (fsV (V ++ [l]) V.length) := by
    have := own_of_list hu
    unfold nsV fsV
    rw [gdl_new]; exact this
  have J := I.step hu2 hb o ho hg hv
  have e : (V ++ [l]).length = V.length + 1 := by simp
  exact ⟨⟨by rw [e]; exact J.out, by rw [e]; exact J.fam, by rw [e]; exact J.apart⟩, J.below⟩
theorem Tr.wlen {R : List En} {bg : List (List Int)} (T : Tr R bg) : ∀ (n i : Nat), i ≤ n → i < R.length → (wa bg i).length ≤ i
  | n, 0, _, _ => by rw [T.root]; simp
  | 0, i + 1, h, _ => by omega
  | n + 1, i + 1, h, hi => by
    obtain ⟨h1, h2⟩ := T.par (i + 1) (by omega) hi
    have := Tr.wlen T n (ea R (i + 1)).p (by omega) (by omega)
    rw [h2]; simp; omega
/-- What Words leaves. -/
def WsPost (c : Cs) (w : World) (e : Ending) (w' : World) : Prop :=
  ∃ v us L, e = .returned v ∧ Wds c L ∧ LLs w' w.heap.size v us L ∧ Below w.heap.size w w' ∧ L.length ≤ c.bg.length ∧ ∀ u ∈ L, u.length ≤ c.bg.length
theorem wdsV_lens {c : Cs} {R : List En} {P : List Nat} (I : Ri c R) (h : Ino R c.bg P P.length) : (wdsV c R P).length ≤ c.bg.length ∧ ∀ u ∈ wdsV c R P, u.length ≤ c.bg.length := by
  have hl := h.len
  have hR := I.tr.len
  refine ⟨?_, fun u hu => ?_⟩
  · unfold wdsV
    rw [List.length_map]
    have := List.length_filter_le (keepP c R) P
    omega
  · unfold wdsV at hu
    obtain ⟨p, hp, rfl⟩ := List.mem_map.1 hu
    have hp := h.lt p (List.mem_filter.1 hp).1
    have := I.tr.wlen p p (Nat.le_refl _) hp
    omega
theorem keep_0 {c : Cs} {R : List En} {p : Nat} (h : (ea R p).kn = false) : keepP c R p = false := by unfold keepP; rw [h]; rfl
theorem keep_1 {c : Cs} {R : List En} {p : Nat} (h : (ea R p).kn = true) (k : c.kind ≠ 2) : keepP c R p = true := by unfold keepP; rw [h]; simp [k]
theorem keep_2 {c : Cs} {R : List En} {p : Nat} (h : (ea R p).kn = true) (hc : (ea R p).c = 0) : keepP c R p = true := by unfold keepP; rw [h]; simp [hc]
theorem keep_3 {c : Cs} {R : List En} {p : Nat} (k : c.kind = 2) (hc : (ea R p).c ≠ 0) : keepP c R p = false := by unfold keepP; simp [k, hc]
theorem RdR.six {w : World} {g : Nat} {R : List En} (h : RdR w g R) {i : Nat} (hi : i < R.length) : w.cell? ⟨g, i * 6, none⟩ = some (.int .i64 ((ea R i).p : Int)) ∧ w.cell? ⟨g, i * 6 + 1, none⟩ = some (.int .i64 (ea R i).s) ∧ w.cell? ⟨g, i * 6 + 2, none⟩ = some (.int .i64 ((ea R i).c : Int)) ∧ w.cell? ⟨g, i * 6 + 3, none⟩ = some (.int .i64 ((ea R i).n : Int)) ∧ w.cell? ⟨g, i * 6 + 4, none⟩ = some (.bool (ea R i).kn) ∧ w.cell? ⟨g, i * 6 + 5, none⟩ = some (.int .i64 (ea R i).la) :=
  ⟨h.p hi, h.s hi, h.c hi, h.n hi, h.kn hi, h.la hi⟩

set_option maxRecDepth 100000 in
set_option maxHeartbeats 4000000 in
theorem words_any {B : Nat} {w : World} {b g cap : Nat} {c : Cs} {R : List En} (h : Co B w b g cap c R) :
    Calls Try.prog 26 #[.pointer (some ⟨b, 0, none⟩)] w fun e w' => WsPost c w e w' := by
  have hmd := isMade_any h
  have hRl := h.len.2
  have hin := inOrder_any R c.bg g cap w h.i.tr h.row.1 hRl
  have HH := hide h
  have c4 := h.c4
  clear h
  go_enter Try.func26, Try.ntmps26
  go_wp2_with fail
  refine hmd.mono ?_
  rintro e w1 ⟨rfl, rfl⟩
  go_wp2_with fail
  refine hin.mono ?_
  rintro e w2 ⟨vp, P, rfl, hino, hop, hb2⟩
  have HI := hide hino
  have HOP := hide hop
  have HB2 := hide hb2
  obtain ⟨av, cv, rfl, -, -, -, hrd, -⟩ := hop.shape
  rw [ni_len]
  have hPR := hino.len
  have HRD := hide hrd
  clear hmd hin c4 hino hop hrd
  go_wp2
  go_loopw [3, 16] (fun v x wr => ∃ (t : Nat) (us : Nat → Value), x = .int .i64 t ∧ t ≤ P.length ∧ Hid (LLs wr w2.heap.size v us (wdsV c R (P.take t))) ∧ Below w2.heap.size w2 wr) (fun _ x _ => P.length - (intOf x).toNat)
  case atStart => exact ⟨0, fun _ => .slice none 0 0, rfl, Nat.zero_le _, hide (LLs.nil _ _ _), Below.refl _ _⟩
  case round =>
    obtain ⟨t, us, rfl, ht, HL, hB2⟩ := hrel
    clear hb2
    have hB := bstep (unhide HB2) hB2
    by_cases hlt : t < P.length
    · have hlt' : (t : Int) < (P.length : Int) := by omega
      obtain ⟨pb, poff, rfl, hpc⟩ := ((unhide HRD).below hB2).at (i := t) (by rw [ni_len]; omega)
      have d0 := hpc t (by rw [ni_len]; omega)
      rw [ni_at] at d0
      have hal := (unhide HI).lt _ (gn_mem hlt)
      have hal' : ((P.getD t 0 : Nat) : Int) < (R.length : Int) := by omega
      have co := (unhide HH).below hB
      have c4 := co.c4
      obtain ⟨e0, e1, e2, e3, e4, e5⟩ := co.row.1.six hal
      have HN := hide (wdsV_next (c := c) (R := R) hlt)
      have HSP : Hid (∀ wx, Below w1.heap.size w1 wx → Calls Try.prog 50 #[.slice (some ⟨g, 0, none⟩) R.length cap, .int .i64 ((P.getD t 0 : Nat) : Int)] wx fun e w' => SpePost (wa c.bg (P.getD t 0)) wx e w') := fun wx hx => spell_any R c.bg g cap (P.getD t 0) wx (unhide HH).i.tr ((unhide HH).below hx).row.1 hal hRl
      have HLN : Hid ((wdsV c R (P.take t)).length ≤ P.length) := by
        show _ ≤ _
        unfold wdsV
        rw [List.length_map]
        have := List.length_filter_le (keepP c R) (P.take t)
        rw [List.length_take] at this
        omega
      have HWL : Hid ((wa c.bg (P.getD t 0)).length ≤ 1048576) := by
        show _ ≤ _
        have := (unhide HH).i.tr.wlen _ _ (Nat.le_refl _) hal
        omega
      generalize P.getD t 0 = A at *
      cases hkn : (ea R A).kn with
      | false =>
        rw [hkn] at e4
        have HE : Hid (wdsV c R (P.take (t + 1)) = wdsV c R (P.take t)) := by
          show _ = _
          rw [unhide HN, keep_0 hkn, if_neg (by simp), List.append_nil]
        generalize ea R A = E at *
        clear hpc hkn co HSP HN hal
        go_wp2
        go_roundw
        case rel => exact ⟨t + 1, us, by go_num, by omega, hide (by rw [unhide HE]; exact (unhide HL).below (ballo _ _)), balloc hB2 _⟩
        case measure => simp [intOf]; omega
      | true =>
        rw [hkn] at e4
        by_cases hk2 : c.kind = 2
        · have him : ∀ wx, Below w1.heap.size w1 wx → Calls Try.prog 34 #[.pointer (some ⟨b, 0, none⟩)] wx fun e w' => e = .returned (.bool true) ∧ w' = wx := fun wx hx => by
            have := isMealy_any ((unhide HH).below hx)
            rwa [show (c.kind == 2) = true by simp [hk2]] at this
          have HIM := hide him
          by_cases hc0 : (ea R A).c = 0
          · have t0 : (((ea R A).c : Int) != 0) = false := by simp [hc0]
            have HE : Hid (wdsV c R (P.take (t + 1)) = wdsV c R (P.take t) ++ [wa c.bg A]) := by
              show _ = _
              rw [unhide HN, keep_2 hkn hc0, if_pos rfl]
            have HGO := hide (goesOn_any (ea R A).p (ea R A).s (ea R A).c (ea R A).n)
            rw [t0] at HGO
            generalize ea R A = E at *
            generalize wa c.bg A = U at *
            generalize wdsV c R (P.take t) = V at *
            obtain ⟨al, cl, rfl, -⟩ := (unhide HL).rdx
            clear hpc hkn co HN hal hk2 him hc0
            go_wp2_with (first | (go_at_call 34; refine (unhide HIM _ (balloc hB _)).mono ?_; rintro e w' ⟨rfl, hw'⟩; subst w') | (go_at_call 49; refine (unhide HGO _).mono ?_; rintro e w6 ⟨rfl, hb6⟩; have c4 := ((unhide HH).below (bstep (balloc hB _) hb6)).c4) | (go_at_call 50; refine (unhide HSP _ (bstep (balloc hB _) hb6)).mono ?_; rintro e w7 ⟨v7, rfl, ho7, hb7⟩; have hb7' : Below wr.heap.size wr w7 := bstep (bstep (ballo _ _) hb6) hb7; have z7 := hb7'.size; have zB := hB2.size; obtain ⟨a7, c7, rfl, -, -, -, -, -⟩ := ho7.shape) | (at_builtin; refine wplV_append3 rfl (.tmp 40) (.tmp 47) rfl w2.heap.size _ V.length us rfl ((((unhide HL).out).below hb7').alloc _) ⟨w7.heap.size, 0, none⟩ 1 1 (fun _ => .slice a7 U.length c7) rfl (RdV.lit w7 1 (fun _ => .slice a7 U.length c7) _ (by unfold maxLen; omega) (by simp [cellsV])) (by intro i _; exact ⟨_, _, _, rfl⟩) (by omega) (by have := unhide HLN; omega) (by simp; omega) ?_; intro v8 w8 ho8 hg8 hv8; have hLA := LLs.add (unhide HL) hB2 (ho7.mono (bstep (ballo _ _) hb6).size) hb7' _ ho8 hg8 hv8; obtain ⟨a8, c8, rfl, -⟩ := hLA.1.rdx))
            go_roundw
            case rel => exact ⟨t + 1, _, by go_num, by omega, hide (by rw [unhide HE]; have h := hLA.1; rw [List.length_append] at h; exact h), hLA.2⟩
            case measure => simp [intOf]; omega
          · have t0 : (((ea R A).c : Int) != 0) = true := by simp [hc0]
            have HE : Hid (wdsV c R (P.take (t + 1)) = wdsV c R (P.take t)) := by
              show _ = _
              rw [unhide HN, keep_3 hk2 hc0, if_neg (by simp), List.append_nil]
            have HGO := hide (goesOn_any (ea R A).p (ea R A).s (ea R A).c (ea R A).n)
            rw [t0] at HGO
            generalize ea R A = E at *
            clear hpc hkn co HSP HN hal hk2 hc0 him
            go_wp2_with (first | (go_at_call 34; refine (unhide HIM _ (balloc hB _)).mono ?_; rintro e w' ⟨rfl, hw'⟩; subst w') | (go_at_call 49; refine (unhide HGO _).mono ?_; rintro e w6 ⟨rfl, hb6⟩))
            go_roundw
            case rel => exact ⟨t + 1, us, by go_num, by omega, hide (by rw [unhide HE]; exact ((unhide HL).below (ballo _ _)).below hb6), bstep (balloc hB2 _) hb6⟩
            case measure => simp [intOf]; omega
        · have him : ∀ wx, Below w1.heap.size w1 wx → Calls Try.prog 34 #[.pointer (some ⟨b, 0, none⟩)] wx fun e w' => e = .returned (.bool false) ∧ w' = wx := fun wx hx => by
            have := isMealy_any ((unhide HH).below hx)
            rwa [show (c.kind == 2) = false by simp [hk2]] at this
          have HIM := hide him
          have HE : Hid (wdsV c R (P.take (t + 1)) = wdsV c R (P.take t) ++ [wa c.bg A]) := by
            show _ = _
            rw [unhide HN, keep_1 hkn hk2, if_pos rfl]
          generalize ea R A = E at *
          generalize wa c.bg A = U at *
          generalize wdsV c R (P.take t) = V at *
          obtain ⟨al, cl, rfl, -⟩ := (unhide HL).rdx
          clear hpc hkn co HN hal hk2 him
          go_wp2_with (first | (go_at_call 34; refine (unhide HIM _ (balloc hB _)).mono ?_; rintro e w' ⟨rfl, hw'⟩; subst w'; have c4 := ((unhide HH).below (balloc hB (.cells #[.int .i64 E.p, .int .i64 E.s, .int .i64 E.c, .int .i64 E.n, .bool true, .int .i64 E.la] 87))).c4) | (go_at_call 50; refine (unhide HSP _ (balloc hB _)).mono ?_; rintro e w7 ⟨v7, rfl, ho7, hb7⟩; have hb7' : Below wr.heap.size wr w7 := bstep (ballo _ _) hb7; have z7 := hb7'.size; have zB := hB2.size; obtain ⟨a7, c7, rfl, -, -, -, -, -⟩ := ho7.shape) | (at_builtin; refine wplV_append3 rfl (.tmp 40) (.tmp 47) rfl w2.heap.size _ V.length us rfl ((((unhide HL).out).below hb7').alloc _) ⟨w7.heap.size, 0, none⟩ 1 1 (fun _ => .slice a7 U.length c7) rfl (RdV.lit w7 1 (fun _ => .slice a7 U.length c7) _ (by unfold maxLen; omega) (by simp [cellsV])) (by intro i _; exact ⟨_, _, _, rfl⟩) (by omega) (by have := unhide HLN; omega) (by simp; omega) ?_; intro v8 w8 ho8 hg8 hv8; have hLA := LLs.add (unhide HL) hB2 (ho7.mono (ballo _ _).size) hb7' _ ho8 hg8 hv8; obtain ⟨a8, c8, rfl, -⟩ := hLA.1.rdx))
          go_roundw
          case rel => exact ⟨t + 1, _, by go_num, by omega, hide (by rw [unhide HE]; have h := hLA.1; rw [List.length_append] at h; exact h), hLA.2⟩
          case measure => simp [intOf]; omega
    · obtain rfl : t = P.length := by omega
      have HF : Hid (∀ v, LLs wr w2.heap.size v us (wdsV c R P) → WsPost c w1 (.returned v) wr) := fun v hv => ⟨v, us, _, rfl, wds_of (unhide HH).i (unhide HI), hv.base (unhide HB2).size, hB, (wdsV_lens (unhide HH).i (unhide HI)).1, (wdsV_lens (unhide HH).i (unhide HI)).2⟩
      have hLL := unhide HL
      rw [List.take_length] at hLL
      have HLL := hide hLL
      clear hLL HL
      go_wp2
      go_ret
      exact unhide HF _ (unhide HLL)

end Go.Proofs.Ytemalidanjfmkaa
