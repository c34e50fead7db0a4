/-
  Whether two lists of ints are the same: the reference's Same.
-/
import Derived.Test.YtdlcbjbcehpooaaSeq
namespace Go.Proofs.Ytdlcbjbcehpooaa
open Go.RowKit

theorem take_at {l : List Int} {j : Nat} (h : j < l.length) : l.take (j + 1) = l.take j ++ [l.getD j 0] := by
  rw [List.take_add_one]; simp [h]

theorem drop_at {l : List Int} {j : Nat} (h : j < l.length) : l.drop j = l.getD j 0 :: l.drop (j + 1) := by
  rw [List.drop_eq_getElem_cons h]; simp [h]

theorem same_list (a a' : Option Addr) (c c' : Nat) (l l' : List Int) (w : World) (hr : RdL .i64 w a l) (hr' : RdL .i64 w a' l') (hn : l.length ≤ maxLen) :
    Calls Try.prog 14 #[.slice a l.length c, .slice a' l'.length c'] w fun e w' => e = .returned (.bool (decide (l = l'))) ∧ Below w.heap.size w w' := by
  unfold maxLen at hn
  by_cases hl : l.length = l'.length
  · have hne : ((l.length : Int) != (l'.length : Int)) = false := by simp [hl]
    go_enter Try.func14, Try.ntmps14
    go_wp2
    go_loopw [5] (fun i wr => ∃ j : Nat, j ≤ l.length ∧ i = .int .i64 j ∧ Hid (l.take j = l'.take j) ∧ Below w.heap.size w wr) (fun i _ => l.length - (intOf i).toNat)
    case atStart => exact ⟨0, Nat.zero_le _, rfl, hide rfl, Below.refl _ _⟩
    case round =>
      obtain ⟨j, hj, rfl, HG, hb⟩ := hrel
      by_cases hlt : j < l.length
      · obtain ⟨b, off, rfl, hc⟩ := (hr.below hb).at hlt
        obtain ⟨b', off', rfl, hc'⟩ := (hr'.below hb).at (i := j) (by omega)
        have hcj := hc j hlt
        have hcj' := hc' j (by omega)
        have hlt' : (j : Int) < (l.length : Int) := by omega
        have hlt2 : (j : Int) < (l'.length : Int) := by omega
        have HS := hide (take_at hlt)
        have HS' := hide (take_at (l := l') (j := j) (by omega))
        have HO := hide (fun (e : l = l') => show l.getD j 0 = l'.getD j 0 by rw [e])
        clear hc hc'
        generalize l.getD j 0 = x at *
        generalize l'.getD j 0 = y at *
        by_cases h1 : x = y
        · have ht : (x != y) = false := by simpa using h1
          have HE := hide h1
          clear h1
          go_wp2
          go_quiet (fail)
          go_wp2
          go_roundw
          case rel => exact ⟨j + 1, by omega, by go_num, hide (by rw [unhide HS, unhide HS', unhide HG, unhide HE]), below_drewN hb _⟩
          case measure => simp [intOf]; omega
        · have ht : (x != y) = true := by simpa using h1
          have HE := hide h1
          clear h1
          go_wp2
          go_quiet (fail)
          go_wp2
          go_ret
          exact ⟨ret_bool (decide_eq_false fun e => unhide HE (unhide HO e)).symm, below_drewN hb _⟩
      · have he : j = l.length := by omega
        subst he
        go_wp2
        go_ret
        refine ⟨ret_bool (decide_eq_true ?_).symm, hb⟩
        have h := unhide HG
        rwa [List.take_length, hl, List.take_length] at h
  · have hne : ((l.length : Int) != (l'.length : Int)) = true := by simp; omega
    go_enter Try.func14, Try.ntmps14
    go_wp2
    go_ret
    exact ⟨ret_bool (decide_eq_false fun e => hl (by rw [e])).symm, Below.refl _ _⟩

end Go.Proofs.Ytdlcbjbcehpooaa
