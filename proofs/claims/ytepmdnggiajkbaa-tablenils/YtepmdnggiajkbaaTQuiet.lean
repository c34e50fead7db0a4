/-
  What the references' Same and Ahead return, with nothing but draws left behind; the order of lists against layer 1's.
-/
import Derived.Test.YtepmdnggiajkbaaAheadW
import Derived.Test.YtepmdnggiajkbaaK1
import Derived.Test.YtepmdnggiajkbaaK2
import Derived.Test.YtepmdnggiajkbaaLsts
namespace Go.Proofs.Ytepmdnggiajkbaa
open Go.RowKit

/-- Nothing but draws between. -/
def Dr (w w' : World) : Prop := ∃ m, w' = w.drewN m
theorem Dr.refl (w : World) : Dr w w := ⟨0, rfl⟩
theorem Dr.step {w w' : World} (h : Dr w w') (n : Nat) : Dr w (w'.drewN n) := by
  obtain ⟨m, rfl⟩ := h
  exact ⟨m + n, by simp⟩
theorem Dr.below {w w' : World} (h : Dr w w') : Below w.heap.size w w' := by
  obtain ⟨m, rfl⟩ := h
  exact below_drewN (Below.refl _ _) m

theorem same_dr (a a' : Option Addr) (c c' : Nat) (l l' : List Int) (w : World) (hr : RdL .i64 w a l) (hr' : RdL .i64 w a' l') (hn : l.length ≤ maxLen) :
    Calls Try.prog 37 #[.slice a l.length c, .slice a' l'.length c'] w fun e w' => e = .returned (.bool (decide (l = l'))) ∧ Dr w w' := by
  unfold maxLen at hn
  by_cases hl : l.length = l'.length
  · have hne : ((l.length : Int) != (l'.length : Int)) = false := by simp [hl]
    go_enter Try.func37, Try.ntmps37
    go_wp2
    go_loopw [5] (fun i wr => ∃ j : Nat, j ≤ l.length ∧ i = .int .i64 j ∧ Hid (l.take j = l'.take j) ∧ Dr w wr) (fun i _ => l.length - (intOf i).toNat)
    case atStart => exact ⟨0, Nat.zero_le _, rfl, hide rfl, Dr.refl _⟩
    case round =>
      obtain ⟨j, hj, rfl, HG, hd⟩ := hrel
      have hb := hd.below
      by_cases hlt : j < l.length
      · obtain ⟨b, off, rfl, hc⟩ := (hr.below hb).at hlt
        obtain ⟨b', off', rfl, hc'⟩ := (hr'.below hb).at (i := j) (by omega)
        have hcj := hc j hlt
        have hcj' := hc' j (by omega)
        have hlt' : (j : Int) < (l.length : Int) := by omega
        have hlt2 : (j : Int) < (l'.length : Int) := by omega
        have HS := hide (take_at hlt)
        have HS' := hide (take_at (l := l') (j := j) (by omega))
        have HO := hide (fun (e : l = l') => show l.getD j 0 = l'.getD j 0 by rw [e])
        clear hc hc'
        generalize l.getD j 0 = x at *
        generalize l'.getD j 0 = y at *
        by_cases h1 : x = y
        · have ht : (x != y) = false := by simpa using h1
          have HE := hide h1
          clear h1
          go_wp2
          go_quiet (fail)
          go_wp2
          go_roundw
          case rel => exact ⟨j + 1, by omega, by go_num, hide (by rw [unhide HS, unhide HS', unhide HG, unhide HE]), hd.step _⟩
          case measure => simp [intOf]; omega
        · have ht : (x != y) = true := by simpa using h1
          have HE := hide h1
          clear h1
          go_wp2
          go_quiet (fail)
          go_wp2
          go_ret
          exact ⟨ret_bool (decide_eq_false fun e => unhide HE (unhide HO e)).symm, hd.step _⟩
      · have he : j = l.length := by omega
        subst he
        go_wp2
        go_ret
        refine ⟨ret_bool (decide_eq_true ?_).symm, hd⟩
        have h := unhide HG
        rwa [List.take_length, hl, List.take_length] at h
  · have hne : ((l.length : Int) != (l'.length : Int)) = true := by simp; omega
    go_enter Try.func37, Try.ntmps37
    go_wp2
    go_ret
    exact ⟨ret_bool (decide_eq_false fun e => hl (by rw [e])).symm, Dr.refl _⟩


theorem lex_at : ∀ {a b : List Int}, Lex a b → ∃ i, i < a.length ∧ i < b.length ∧ a.getD i 0 < b.getD i 0 ∧ ∀ j, j < i → a.getD j 0 = b.getD j 0
  | x :: a, y :: b, h => by
    simp only [Lex] at h
    rcases h with h | ⟨rfl, h⟩
    · exact ⟨0, by simp, by simp, h, fun j hj => by omega⟩
    · obtain ⟨i, h1, h2, h3, h4⟩ := lex_at h
      refine ⟨i + 1, by simp; omega, by simp; omega, h3, fun j hj => ?_⟩
      cases j with
      | zero => rfl
      | succ j => exact h4 j (by omega)
  | [], _, h => by simp [Lex] at h
  | _ :: _, [], h => by simp [Lex] at h
theorem cmp_ahd {a b : List Int} (h : Ahd a b) : cmpV a.length (fun i => a.getD i 0) b.length (fun i => b.getD i 0) = -1 := by
  rcases h with h | ⟨e, h⟩
  · rw [cmpV_len (by omega), cmp_lt (by omega)]
  · obtain ⟨i, h1, _, h3, h4⟩ := lex_at h
    rw [← e, cmpV_at h1 (by show a.getD i 0 ≠ b.getD i 0; omega) h4]
    exact cmp_lt h3
def ahdL (a b : List Int) : Bool := ahdV a.length (fun i => a.getD i 0) b.length (fun i => b.getD i 0)
theorem ahdL_yes {a b : List Int} (h : Ahd a b) : ahdL a b = true := by unfold ahdL ahdV; rw [cmp_ahd h]; rfl
theorem ahdL_no {a b : List Int} (h : ¬ Ahd a b) : ahdL a b = false := by
  unfold ahdL ahdV
  rcases Ahd.total a b with h1 | h1 | h1
  · exact absurd h1 h
  · subst h1; rw [cmpV_same fun _ _ => rfl]; rfl
  · rw [cmpV_neg, cmp_ahd h1]; rfl
end Go.Proofs.Ytepmdnggiajkbaa
