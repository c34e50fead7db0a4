/-
  The program's walk along a row: the places of a word's beginnings; whether something is kept of it.
-/
import Derived.Test.YtemalidanjfmkaaNRow
namespace Go.Proofs.Ytemalidanjfmkaa
open Go.RowKit

/-- Places as numbers. -/
def ni (P : List Nat) : List Int := P.map fun (x : Nat) => (x : Int)
theorem ni_len (P : List Nat) : (ni P).length = P.length := by simp [ni]
theorem ni_at (P : List Nat) (j : Nat) : (ni P).getD j 0 = ((P.getD j 0 : Nat) : Int) := by
  unfold ni
  rw [List.getD_eq_getElem?_getD, List.getElem?_map, List.getD_eq_getElem?_getD]
  cases P[j]? <;> rfl
theorem ni_snoc (P : List Nat) (y : Nat) : ni (P ++ [y]) = ni P ++ [(y : Int)] := by simp [ni]
/-- What walk leaves. -/
def WkPost (bg : List (List Int)) (wd : List Int) (w : World) (e : Ending) (w' : World) : Prop :=
  ∃ v P, e = .returned v ∧ PthE bg wd P ∧ OwnL .i64 3 w' w.heap.size v (ni P) ∧ Below w.heap.size w w'

set_option maxRecDepth 100000 in
set_option maxHeartbeats 2000000 in
theorem walk_any (R : List En) (c : Cs) (g cap : Nat) (a3 : Option Addr) (c3 : Nat) (wd : List Int) (w : World) (T : Tr R c.bg) (hr : RdR w g R) (hw : RdL .i64 w a3 wd) (hl : wd.length ≤ 1000000000) :
    Calls Try.prog 39 #[.slice (some ⟨g, 0, none⟩) R.length cap, .slice a3 wd.length c3] w fun e w' => WkPost c.bg wd w e w' := by
  have HR := hide hr
  have HT := hide T
  have HW := hide hw
  clear hr T hw
  go_enter Try.func39, Try.ntmps39
  go_wp2
  go_loopw [5, 6, 12] (fun v u i wr => ∃ (j : Nat) (P : List Nat), i = .int .i64 j ∧ u = .int .i64 (P.getD j 0 : Nat) ∧ j ≤ wd.length ∧ Hid (P.length = j + 1) ∧ Hid (Pth c.bg wd P) ∧ Hid (OwnL .i64 3 wr w.heap.size v (ni P)) ∧ Below w.heap.size w wr) (fun _ _ i _ => wd.length - (intOf i).toNat)
  case atStart => exact ⟨0, [0], rfl, rfl, Nat.zero_le _, hide rfl, hide (Pth.start (unhide HT) wd), hide (OwnL.lit w w.heap.size [0] _ (Nat.le_refl _) (by unfold maxLen; simp) rfl), ballo _ _⟩
  case round =>
    obtain ⟨j, P, rfl, rfl, hj, HL, HP, HO, hB⟩ := hrel
    by_cases hlt : j < wd.length
    · have hlt' : (j : Int) < (wd.length : Int) := by omega
      obtain ⟨b, off, rfl, hc⟩ := ((unhide HW).below hB).at hlt
      have c0 := hc j hlt
      have hpa := (unhide HP).at' j (by have := unhide HL; omega)
      have hpl : P.getD j 0 < R.length := by rw [(unhide HT).len]; exact hpa.1
      have hcb := childBy_any R c.bg g cap (P.getD j 0) (wd.getD j 0) wr (unhide HT) ((unhide HR).below hB) hpl
      have HE := hide (show wa c.bg (P.getD j 0) ++ [wd.getD j 0] = wd.take (j + 1) by rw [hpa.2, take_next hlt])
      have HPW := hide (show (P.getD j 0 : Nat) = P.getD j 0 from rfl)
      generalize P.getD j 0 = A at *
      generalize wd.getD j 0 = X at *
      clear hc hpa hpl
      go_wp2_with fail
      refine hcb.mono ?_
      rintro e w1 ⟨y, rfl, hy, hb1⟩
      have hB1 := bstep hB hb1
      clear c0 hcb
      by_cases h0 : y = 0
      · have t0 : ((y : Int) == 0) = true := by simp [h0]
        have HPE : Hid (PthE c.bg wd P) := ⟨unhide HP, fun _ => by
          rw [unhide HL, ← unhide HE]
          rcases hy with ⟨h, -⟩ | ⟨-, h⟩
          · exact absurd h0 h
          · exact h⟩
        have HO1 := hide ((unhide HO).grown hb1)
        clear hy h0
        go_wp2
        go_ret
        exact ⟨_, P, rfl, unhide HPE, unhide HO1, hB1⟩
      · have t0 : ((y : Int) == 0) = false := by simp [h0]
        have HPS : Hid (Pth c.bg wd (P ++ [y])) := (unhide HP).snoc (by rw [unhide HL]; omega) (by
            rcases hy with ⟨-, h, -⟩ | ⟨h, -⟩
            · rw [← (unhide HT).len]; exact h
            · exact absurd h h0) (by
            rw [unhide HL, ← unhide HE]
            rcases hy with ⟨-, -, h⟩ | ⟨h, -⟩
            · exact h
            · exact absurd h h0)
        have HO1 := hide ((unhide HO).grown hb1)
        have HB1 := hide hB1
        clear hy h0
        have hpl : (ni P).length = j + 1 := by rw [ni_len]; exact unhide HL
        go_wp2_with (at_builtin; refine wpl_pushL eInt rfl (.tmp 22) (.tmp 24) rfl w.heap.size _ (ni P) rfl (OwnL.alloc (unhide HO1) _) (some ⟨w1.heap.size, 0, none⟩) 1 [(y : Int)] rfl (RdL.one _ _) (fun e => by cases e) (by rw [hpl]; simp only [List.length_cons, List.length_nil]; omega) (by have := hB1.size; simp; omega) ?_; intro v8 w8 ho8 hb8 hg8)
        go_wp2
        go_roundw
        case rel =>
          refine ⟨j + 1, P ++ [y], by go_num, ?_, by omega, hide (by simp [unhide HL]), HPS, hide (by rw [ni_snoc]; exact ho8), (balloc (unhide HB1) _).trans hb8⟩
          rw [← unhide HL, gdn_new]
        case measure => simp [intOf]; omega
    · obtain rfl : j = wd.length := by omega
      have HPE : Hid (PthE c.bg wd P) := ⟨unhide HP, fun h => by have := unhide HL; omega⟩
      go_wp2
      go_ret
      exact ⟨_, P, rfl, unhide HPE, unhide HO, hB⟩

/-- What find leaves. -/
def FiPost (c : Cs) (wd : List Int) (w : World) (e : Ending) (w' : World) : Prop :=
  Below w.heap.size w w' ∧ ((findV c wd = none ∧ e = .returned (.tuple #[.slice none 0 0, .bool false])) ∨ ∃ v P y, findV c wd = some y ∧ e = .returned (.tuple #[v, .bool true]) ∧ PthE c.bg wd P ∧ OwnL .i64 3 w' w.heap.size v (ni P))

set_option maxRecDepth 100000 in
set_option maxHeartbeats 2000000 in
theorem find_any (R : List En) (c : Cs) (g cap : Nat) (a3 : Option Addr) (c3 : Nat) (wd : List Int) (w : World) (I : Ri c R) (hr : RdR w g R) (hw : RdL .i64 w a3 wd) (hl : wd.length ≤ 1000000000) :
    Calls Try.prog 45 #[.slice (some ⟨g, 0, none⟩) R.length cap, .slice a3 wd.length c3] w fun e w' => FiPost c wd w e w' := by
  have hwk := walk_any R c g cap a3 c3 wd w I.tr hr hw hl
  have HR := hide hr
  have HI := hide I
  clear hr I hw
  go_enter Try.func45, Try.ntmps45
  go_wp2_with fail
  refine hwk.mono ?_
  rintro e w1 ⟨v, P, rfl, hp, ho, hb1⟩
  have HP := hide hp
  have HO := hide ho
  have hf := (unhide HI).find hp
  obtain ⟨av, cv, rfl, -, -, -, hrd, -⟩ := ho.shape
  rw [ni_len]
  clear hwk
  by_cases hle : P.length ≤ wd.length
  · have hle' : (P.length : Int) ≤ (wd.length : Int) := by omega
    have HF := hide (hf.1 hle)
    clear hf hp ho hrd
    go_wp2
    go_ret2
    exact ⟨hb1, .inl ⟨unhide HF, rfl⟩⟩
  · have hle' : ¬ (P.length : Int) ≤ (wd.length : Int) := by omega
    have hle2 : (wd.length : Int) < (P.length : Int) := by omega
    have hk := hf.2 (by omega)
    obtain ⟨b, off, rfl, hc⟩ := hrd.at (i := wd.length) (by rw [ni_len]; omega)
    have c0 := hc wd.length (by rw [ni_len]; omega)
    rw [ni_at] at c0
    have hpa := hp.1.at' wd.length (by omega)
    have hpl : P.getD wd.length 0 < R.length := by rw [(unhide HI).tr.len]; exact hpa.1
    have hpl' : ((P.getD wd.length 0 : Nat) : Int) < (R.length : Int) := by omega
    have c1 := ((unhide HR).below hb1).kn hpl
    rw [hk] at c1
    generalize P.getD wd.length 0 = A at *
    clear hf hp ho hrd hc hk hpa hpl
    cases hfv : findV c wd with
    | none =>
      rw [hfv] at c1
      have HF := hide hfv
      clear hfv
      change w1.cell? _ = some (.bool false) at c1
      go_wp2
      go_ret2
      exact ⟨hb1, .inl ⟨unhide HF, rfl⟩⟩
    | some y =>
      rw [hfv] at c1
      have HF := hide hfv
      clear hfv
      change w1.cell? _ = some (.bool true) at c1
      go_wp2
      go_ret2
      refine ⟨hb1, .inr ⟨_, P, y, unhide HF, rfl, unhide HP, ?_⟩⟩
      have := unhide HO
      rwa [ni_len] at this

end Go.Proofs.Ytemalidanjfmkaa
