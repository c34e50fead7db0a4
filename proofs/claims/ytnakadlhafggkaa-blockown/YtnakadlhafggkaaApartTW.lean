/-
  Apart, walked: true of N lists that lie each in memory of its own; what lies in other blocks stays as it was.
-/
import Derived.Test.YtnakadlhafggkaaApartT
namespace Go.Proofs.Ytnakadlhafggkaa
open Go.RowKit

set_option maxHeartbeats 1000000 in
set_option maxRecDepth 100000 in
theorem apart_keep (T : Nat → Prop) (B N : Nat) (v : Value) (vs : Nat → Value) (ns : Nat → Nat) (fs : Nat → Nat → Int) (w : World) (hO : OwnV w B v N vs) (hF : Fam w B N vs ns fs) (hA : ∀ b, v.ownBlock = some b → ∀ i, i < N → (vs i).ownBlock ≠ some b) (hB : B ≤ w.heap.size)
    (hN : N ≤ 100000) (hns : ∀ i, i < N → ns i ≤ 100000) (hT : ∀ k, T k → v.ownBlock ≠ some k ∧ ∀ i, i < N → (vs i).ownBlock ≠ some k) (hTw : ∀ k, T k → k < w.heap.size) :
    Calls Try.prog 28 #[v] w fun e w' => e = .returned (.bool true) ∧ Below B w w' ∧ ∀ k, T k → w'.heap[k]? = w.heap[k]? := by
  have I0 : ApInT T w B N v vs ns (mkF fs 0 0) w := ⟨hO, hF.congr fun i _ j _ => by unfold mkF; rw [if_neg (by omega)], hA, hB, Below.refl _ _, hT, fun _ _ _ => rfl, Nat.le_refl _⟩
  obtain ⟨av, cv, rfl, _, _, _⟩ := hO.shape
  have HI0 := hide I0
  have HNS := hide hns
  have HTW := hide hTw
  clear I0 hO hF hA hns hT hTw
  go_enter Try.func28, Try.ntmps28
  go_wp2
  go_loopw [3] (fun i wr => ∃ I : Nat, I ≤ N ∧ i = .int .i64 I ∧ ApInT T w B N (.slice av N cv) vs ns (mkF fs I 0) wr) (fun i _ => N - (intOf i).toNat)
  case atStart => exact ⟨0, Nat.zero_le _, rfl, unhide HI0⟩
  case round =>
    obtain ⟨I, hI, rfl, hinv⟩ := hrel
    clear HI0
    have HI := hide hinv
    clear hinv
    by_cases hlt : I < N
    · have hni := unhide HNS I hlt
      go_wp2
      go_loopw [4] (fun i wr => ∃ k : Nat, k ≤ ns I ∧ i = .int .i64 k ∧ ApInT T w B N (.slice av N cv) vs ns (mkF fs I k) wr) (fun i _ => ns I - (intOf i).toNat)
      case atStart => exact ⟨0, Nat.zero_le _, rfl, unhide HI⟩
      case round =>
        obtain ⟨k, hk, rfl, hinv⟩ := hrel
        clear HI
        have HK := hide hinv
        obtain ⟨g, cap, e, _, _, _, _, hcell, _⟩ := hinv.out.pos (by omega)
        cases e
        have hcI := hcell I hlt
        clear hcell
        by_cases hkn : k < ns I
        · obtain ⟨g1, c1, e1, _, _, _, _, hcell1, hfr1⟩ := (hinv.fam.own I hlt).pos (by omega)
          rw [e1] at hcI
          have hc1 := hcell1 k hkn
          have hf1 := hfr1 k
          have HS := hide ((hinv.store hlt e1 k (-1000 - (I : Int))).congr fun i _ j _ => mk_step fs I k i j)
          clear hcell1 hfr1 e1 hinv
          go_wp2
          go_roundw
          case rel => exact ⟨k + 1, by omega, by go_num, unhide HS⟩
          case measure => simp [intOf]; omega
        · have he : k = ns I := by omega
          obtain ⟨a1, c1, e1, _, _, _, _⟩ := (hinv.fam.own I hlt).shape
          rw [e1] at hcI
          have HE := hide (hinv.congr (M' := mkF fs (I + 1) 0) fun i _ j hj => by
            unfold mkF
            by_cases c : i < I ∨ (i = I ∧ j < k)
            · rw [if_pos c, if_pos (by omega)]
            · rw [if_neg c, if_neg (by
                intro d
                rcases d with d | d
                · by_cases e2 : i = I
                  · subst e2; omega
                  · omega
                · omega)])
          clear e1 hinv
          subst he
          go_wp2
          go_roundw
          case rel => exact ⟨I + 1, by omega, by go_num, unhide HE⟩
          case measure => simp [intOf]; omega
    · have he : N = I := by omega
      subst he
      have HB0 := hide ((unhide HI).congr (M' := mkAll) fun i hi j _ => by unfold mkF mkAll; rw [if_pos (by omega)])
      clear HI hI hlt
      go_wp2
      go_loopw [5] (fun i wr => ∃ I : Nat, I ≤ N ∧ i = .int .i64 I ∧ ApInT T w B N (.slice av N cv) vs ns mkAll wr) (fun i _ => N - (intOf i).toNat)
      case atStart => exact ⟨0, Nat.zero_le _, rfl, unhide HB0⟩
      case round =>
        obtain ⟨I, hI, rfl, hinv⟩ := hrel
        clear HB0
        have HI := hide hinv
        by_cases hlt : I < N
        · have hni := unhide HNS I hlt
          obtain ⟨g, cap, e, _, _, _, _, hcell, _⟩ := hinv.out.pos (by omega)
          cases e
          have hcI := hcell I hlt
          have hown0 := hinv.fam.own I hlt
          obtain ⟨H0, hH0⟩ : ∃ H0, H0 = wr.heap.size := ⟨_, rfl⟩
          have HG := hide (going_start (H := H0) hown0)
          have HLO : Hid (∀ b, ((Value.slice (some ⟨g, 0, none⟩) N cv).ownBlock = some b ∨ ∃ i, i < N ∧ (vs i).ownBlock = some b) → b < H0) := fun b h => by
            rw [hH0]
            rcases h with h | ⟨i, hi, h⟩
            · exact (hinv.out.lt h).2
            · exact ((hinv.fam.own i hi).lt h).2
          have HLE : Hid (H0 ≤ wr.heap.size) := Nat.le_of_eq hH0
          have HHW : Hid (w.heap.size ≤ H0) := by rw [hH0]; exact hinv.sz
          clear hH0
          obtain ⟨a1, c1, e1, _, _, _, _⟩ := hown0.shape
          rw [e1] at hcI HG
          have HE1 := hide e1
          clear hcell hown0 e1 hinv
          go_wp2
          go_loopw [6, 7] (fun x i wq => ∃ k : Nat, k ≤ 6 ∧ i = .int .i64 k ∧ ApInT T w B N (.slice (some ⟨g, 0, none⟩) N cv) vs ns mkAll wq ∧ H0 ≤ wq.heap.size ∧ Going wq B H0 (vs I) (ns I) I k x) (fun _ i _ => 6 - (intOf i).toNat)
          case atStart => exact ⟨0, by omega, rfl, unhide HI, unhide HLE, by rw [unhide HE1]; exact unhide HG⟩
          case round =>
            obtain ⟨k, hk, rfl, hinv, hszq, F, hx, hc⟩ := hrel
            clear HI HG HLE
            have HQ := hide hinv
            have HC := hide hc
            have hBq : B ≤ wr.heap.size := by have := hinv.below.size; omega
            obtain ⟨ax, cx, rfl, _, _, _, _⟩ := hx.shape
            clear hinv hc
            by_cases hk6 : k < 6
            · go_wp2_with (at_builtin; refine wpl_append3 rfl (.tmp 47) (.tmp 50) rfl B _ (ns I + k) F rfl (hx.alloc _) ⟨wr.heap.size, 0, none⟩ 1 1 (constF (-5000 - (I : Int))) rfl (Rd.lit wr 1 (constF (-5000 - (I : Int))) _ (by unfold maxLen; omega) rfl) (by omega) (by simp; omega) ?_; intro v3 w3 hown3 hD3)
              have HS := hide (going_stepT (unhide HQ) hlt hszq hBq (unhide HHW) (unhide HTW) (unhide HLO) hx (unhide HC) hown3 hD3)
              go_roundw
              case rel => exact ⟨k + 1, by omega, by go_num, (unhide HS).1.1, (unhide HS).2, (unhide HS).1.2⟩
              case measure => simp [intOf]; omega
            · go_wp2
              go_roundw
              case rel => exact ⟨I + 1, by omega, by go_num, unhide HQ⟩
              case measure => simp [intOf]; omega
        · have he : N = I := by omega
          subst he
          clear hI hlt
          have HNS' := HNS
          go_wp2
          go_loop [8] (fun i => ∃ I : Nat, I ≤ N ∧ i = .int .i64 I) (fun i => N - (intOf i).toNat)
          case atStart => exact ⟨0, Nat.zero_le _, rfl⟩
          case round =>
            obtain ⟨I, hI, rfl⟩ := hrel
            by_cases hlt : I < N
            · have hni := unhide HNS I hlt
              obtain ⟨g, cap, e, _, _, _, _, hcell, _⟩ := (unhide HI).out.pos (by omega)
              cases e
              have hcI := hcell I hlt
              have hown0 := (unhide HI).fam.own I hlt
              obtain ⟨a1, c1, e1, _, _, hrd1, _⟩ := hown0.shape
              rw [e1] at hcI
              clear hcell hown0 e1
              go_wp2
              go_loop [9] (fun i => ∃ k : Nat, k ≤ ns I ∧ i = .int .i64 k) (fun i => ns I - (intOf i).toNat)
              case atStart => exact ⟨0, Nat.zero_le _, rfl⟩
              case round =>
                obtain ⟨k, hk, rfl⟩ := hrel
                by_cases hkn : k < ns I
                · obtain ⟨b1, off1, rfl, hc1⟩ := hrd1.at hkn
                  have hck := hc1 k hkn
                  unfold mkAll at hck
                  have ht : ((-1000 - (I : Int)) != (-1000 - (I : Int))) = false := by simp
                  clear hc1
                  go_wp2
                  go_round
                  case rel => exact ⟨k + 1, by omega, by go_num⟩
                  case measure => simp [intOf]; omega
                · go_wp2
                  go_round
                  case rel => exact ⟨I + 1, by omega, by go_num⟩
                  case measure => simp [intOf]; omega
            · go_wp2
              go_ret
              exact ⟨rfl, (unhide HI).below, fun k tk => (unhide HI).kp k tk (unhide HTW k tk)⟩

end Go.Proofs.Ytnakadlhafggkaa
