/-
  What the program tells of a word that is kept; whether an answer fits.
-/
import Derived.Test.YtemalidanjfmkaaNObj
import Derived.Test.YtemalidanjfmkaaHFit
namespace Go.Proofs.Ytemalidanjfmkaa
open Go.RowKit

/-- What the notes at these places say. -/
def laM (R : List En) (Q : List Nat) : List Int := Q.map fun i => (ea R i).la
theorem laM_next {R : List En} {Q : List Nat} {j : Nat} (h : j < Q.length) : laM R (Q.take (j + 1)) = laM R (Q.take j) ++ [(ea R (Q.getD j 0)).la] := by
  unfold laM
  rw [List.take_succ_eq_append_getElem h, List.map_append]
  simp [List.getD_eq_getElem?_getD, h]
theorem RdL.drop {q : IntKind} {w : World} {b off : Nat} {l : List Int} (h : RdL q w (some ⟨b, off, none⟩) l) (n : Nat) : RdL q w (some ⟨b, off + n, none⟩) (l.drop n) := by
  rcases h with h | ⟨b', off', e, hc⟩
  · exact .inl (by rw [List.length_drop]; omega)
  · cases e
    refine .inr ⟨b, off + n, rfl, fun i hi => ?_⟩
    rw [List.length_drop] at hi
    rw [Nat.add_assoc, hc (n + i) (by omega)]
    simp [List.getD_eq_getElem?_getD]

set_option maxRecDepth 100000 in
set_option maxHeartbeats 2000000 in
theorem said_any {B : Nat} {w : World} {b g cap : Nat} {c : Cs} {R : List En} (ba off cv : Nat) (wd : List Int) (P : List Nat) (y : List Int) (h : Co B w b g cap c R) (hp : RdL .i64 w (some ⟨ba, off, none⟩) (ni P)) (hcv : P.length ≤ cv) (hcm : cv ≤ maxLen) (hP : PthE c.bg wd P) (hy : findV c wd = some y) (hl : wd.length ≤ 1000000000) :
    Calls Try.prog 46 #[.pointer (some ⟨b, 0, none⟩), .slice (some ⟨ba, off, none⟩) P.length cv] w fun e w' => ∃ v, e = .returned v ∧ OwnL .i64 3 w' w.heap.size v y ∧ Below w.heap.size w w' := by
  obtain ⟨s1, s2, s3⟩ := h.i.said hP hy
  obtain ⟨F, hF, hFl, hFy⟩ : ∃ F : Nat, ((c.kind == 2) = true → F = 1) ∧ F ≤ P.length ∧ y = laM R (P.drop F) ∧ ((c.kind == 2) = false → F + 1 = P.length) := by
    rcases h.i.pc.kd with k | k
    · refine ⟨wd.length, fun e => by simp [k] at e, by omega, ?_, fun _ => by omega⟩
      rw [s2 k]
      unfold laM
      rw [List.drop_eq_getElem_cons (by omega), List.drop_eq_nil_of_le (by omega)]
      simp [List.getD_eq_getElem?_getD, show wd.length < P.length by omega]
    · exact ⟨1, fun _ => rfl, by omega, s3 k, fun e => by simp [k] at e⟩
  obtain ⟨hFy, hFk⟩ := hFy
  have hQ : ∀ j, j < (P.drop F).length → (P.drop F).getD j 0 < R.length := fun j hj => by
    rw [List.length_drop] at hj
    have := (hP.1.at' (F + j) (by omega)).1
    rw [h.i.tr.len]
    simpa [List.getD_eq_getElem?_getD] using this
  have hrd := hp.drop F
  rw [show (ni P).drop F = ni (P.drop F) by simp [ni]] at hrd
  have hdl : (P.drop F).length = P.length - F := List.length_drop
  have HH := hide h
  have HQ := hide hQ
  have HRD := hide hrd
  have HY := hide hFy
  obtain ⟨Q, hQe⟩ : ∃ Q, Q = P.drop F := ⟨_, rfl⟩
  rw [← hQe] at HQ HRD HY hdl
  have him := isMealy_any h
  have hcap : (P.length : Int) ≤ (cv : Int) := by omega
  have hcap2 : (F : Int) ≤ (P.length : Int) := by omega
  have hQn : Q.length ≤ 1000000001 := by omega
  unfold maxLen at hcm
  clear h hp hP hy s2 s3 hFy hQ hrd hQe
  have MAIN : Calls Try.prog 46 #[.pointer (some ⟨b, 0, none⟩), .slice (some ⟨ba, off, none⟩) P.length cv] w fun e w' => ∃ v, e = .returned v ∧ OwnL .i64 3 w' w.heap.size v (laM R Q) ∧ Below w.heap.size w w' := by
    clear HY
    by_cases k : (c.kind == 2) = true
    · have e1 := hF k
      subst e1
      rw [k] at him
      have hc1 : (1 : Int) ≤ (P.length : Int) := by omega
      clear k hF hFk hcap2 hFl s1
      go_enter Try.func46, Try.ntmps46
      go_wp2_with fail
      refine him.mono ?_
      rintro e w1 ⟨rfl, rfl⟩
      go_wp2
      all_goals
        rw [← hdl]
        first
        | (have HQ0 : Hid (Q.length = 0) := by show _ = _; omega)
        | skip
        have HDL := hide hdl
        clear hdl
        go_loopw [6, 18] (fun v i wr => ∃ j : Nat, i = .int .i64 j ∧ j ≤ Q.length ∧ Hid (OwnL .i64 3 wr w1.heap.size v (laM R (Q.take j))) ∧ Below w1.heap.size w1 wr) (fun _ i _ => Q.length - (intOf i).toNat)
        case atStart => exact ⟨0, rfl, Nat.zero_le _, hide (OwnL.nil _ _ _ _), Below.refl _ _⟩
        case round =>
          obtain ⟨j, rfl, hj, HO, hB⟩ := hrel
          by_cases hlt : j < Q.length
          · first
            | (exfalso; have := unhide HQ0; omega)
            | (have hlt' : (j : Int) < (Q.length : Int) := by omega
               obtain ⟨b', off', e', hc⟩ := ((unhide HRD).below hB).at (i := j) (by rw [ni_len]; exact hlt)
               cases e'
               have c0 := hc j (by rw [ni_len]; exact hlt)
               rw [ni_at] at c0
               have hA := unhide HQ j hlt
               have hA' : ((Q.getD j 0 : Nat) : Int) < (R.length : Int) := by omega
               have co := (unhide HH).below hB
               have c4 := co.c4
               have r5 := co.row.1.la hA
               have HN := hide (laM_next (R := R) hlt)
               have hll : (laM R (Q.take j)).length = j := by simp [laM]; omega
               generalize (ea R (Q.getD j 0)).la = X at *
               generalize Q.getD j 0 = A at *
               clear hc co hA
               go_wp2_with (at_builtin; refine wpl_pushL eInt rfl (.tmp 22) (.tmp 32) rfl w1.heap.size _ (laM R (Q.take j)) rfl (OwnL.alloc (unhide HO) _) (some ⟨wr.heap.size, 0, none⟩) 1 [X] rfl (RdL.one _ _) (fun e => by cases e) (by rw [hll]; simp only [List.length_cons, List.length_nil]; omega) (by have := hB.size; simp; omega) ?_; intro v8 w8 ho8 hb8 hg8)
               go_wp2
               go_roundw
               case rel => exact ⟨j + 1, by go_num, by omega, hide (by rw [unhide HN]; exact ho8), (balloc hB _).trans hb8⟩
               case measure => simp [intOf]; omega)
          · obtain rfl : j = Q.length := by omega
            have HO1 := unhide HO
            rw [List.take_length] at HO1
            have HO' := hide HO1
            clear HO1
            go_wp2
            go_ret
            exact ⟨_, rfl, unhide HO', hB⟩
    · have k' : (c.kind == 2) = false := by simpa using k
      obtain rfl : F = P.length - 1 := by have := hFk k'; omega
      rw [k'] at him
      have hnc : ¬ (cv = P.length - 1) := by omega
      have hfc : (P.length : Int) - 1 ≤ (cv : Int) := by omega
      have hfc0 : (0 : Int) ≤ (P.length : Int) - 1 := by omega
      clear k hF hFk hcap2 hFl s1
      go_enter Try.func46, Try.ntmps46
      go_wp2_with fail
      refine him.mono ?_
      rintro e w1 ⟨rfl, rfl⟩
      go_wp2
      all_goals
        rw [← hdl]
        have HDL := hide hdl
        clear hdl
        go_loopw [6, 18] (fun v i wr => ∃ j : Nat, i = .int .i64 j ∧ j ≤ Q.length ∧ Hid (OwnL .i64 3 wr w1.heap.size v (laM R (Q.take j))) ∧ Below w1.heap.size w1 wr) (fun _ i _ => Q.length - (intOf i).toNat)
        case atStart => exact ⟨0, rfl, Nat.zero_le _, hide (OwnL.nil _ _ _ _), Below.refl _ _⟩
        case round =>
          obtain ⟨j, rfl, hj, HO, hB⟩ := hrel
          by_cases hlt : j < Q.length
          · have hlt' : (j : Int) < (Q.length : Int) := by omega
            obtain ⟨b', off', e', hc⟩ := ((unhide HRD).below hB).at (i := j) (by rw [ni_len]; exact hlt)
            cases e'
            have c0 := hc j (by rw [ni_len]; exact hlt)
            rw [ni_at] at c0
            have hA := unhide HQ j hlt
            have hA' : ((Q.getD j 0 : Nat) : Int) < (R.length : Int) := by omega
            have co := (unhide HH).below hB
            have c4 := co.c4
            have r5 := co.row.1.la hA
            have HN := hide (laM_next (R := R) hlt)
            have hll : (laM R (Q.take j)).length = j := by simp [laM]; omega
            generalize (ea R (Q.getD j 0)).la = X at *
            generalize Q.getD j 0 = A at *
            clear hc co hA
            go_wp2_with (at_builtin; refine wpl_pushL eInt rfl (.tmp 22) (.tmp 32) rfl w1.heap.size _ (laM R (Q.take j)) rfl (OwnL.alloc (unhide HO) _) (some ⟨wr.heap.size, 0, none⟩) 1 [X] rfl (RdL.one _ _) (fun e => by cases e) (by rw [hll]; simp only [List.length_cons, List.length_nil]; omega) (by have := hB.size; simp; omega) ?_; intro v8 w8 ho8 hb8 hg8)
            go_wp2
            go_roundw
            case rel => exact ⟨j + 1, by go_num, by omega, hide (by rw [unhide HN]; exact ho8), (balloc hB _).trans hb8⟩
            case measure => simp [intOf]; omega
          · obtain rfl : j = Q.length := by omega
            have HO1 := unhide HO
            rw [List.take_length] at HO1
            have HO' := hide HO1
            clear HO1
            go_wp2
            go_ret
            exact ⟨_, rfl, unhide HO', hB⟩
  rw [unhide HY]
  exact MAIN

end Go.Proofs.Ytemalidanjfmkaa
