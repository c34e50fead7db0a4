/-
  What the library's slices.Sorted(maps.Keys(m)) returns, for a map that says how many: the classes that have some, in order.
-/
import Derived.Test.YtnakadlhafggkaaQMove
import Derived.Test.YtnakadlhafggkaaQLay
namespace Go.Proofs.Ytnakadlhafggkaa
open Go.RowKit Go.Maps Go.Sort Go.Shelf

/-- The classes that have some in front, in order. -/
def ksL (K : Nat) (N : Nat → Nat) : List Int := ((List.range K).filter fun c => decide (0 < N c)).map fun c : Nat => (c : Int)
theorem ksL_mem {K : Nat} {N : Nat → Nat} {x : Int} : x ∈ ksL K N ↔ ∃ c : Nat, x = (c : Int) ∧ c < K ∧ 0 < N c := by
  unfold ksL
  rw [List.mem_map]
  constructor
  · rintro ⟨c, hc, rfl⟩
    rw [List.mem_filter, List.mem_range] at hc
    exact ⟨c, rfl, hc.1, of_decide_eq_true hc.2⟩
  · rintro ⟨c, rfl, h1, h2⟩
    exact ⟨c, by rw [List.mem_filter, List.mem_range]; exact ⟨h1, decide_eq_true h2⟩, rfl⟩
theorem ksL_sorted (K : Nat) (N : Nat → Nat) : (ksL K N).Pairwise (· < ·) := by
  unfold ksL
  refine List.pairwise_map.2 ?_
  refine (List.Pairwise.filter _ (List.pairwise_lt_range (n := K))).imp ?_
  intro a b h; omega
theorem ksL_len (K : Nat) (N : Nat → Nat) : (ksL K N).length ≤ K := by
  unfold ksL
  rw [List.length_map]
  have := List.length_filter_le (fun c => decide (0 < N c)) (List.range K)
  rwa [List.length_range] at this
theorem keys_perm {w : World} {g m K : Nat} {N : Nat → Nat} {D : DataW Unit} (ho : w.ownsMap Try.prog 3 (plainElem Try.prog 3) g m D) (hs : CSays D N) (hK : ∀ k, K ≤ k → N k = 0) : (ksL K N).Perm (intKeys D) := by
  obtain ⟨es, hD, hpw, _⟩ := ho.entries keyed64
  obtain ⟨es', hD', hko⟩ := ho.keysOf
  obtain rfl : es = es' := by rw [hD] at hD'; simpa using hD'
  subst hD
  refine perm_intKeys hpw (fun p hp => ?_) ((ksL_sorted K N).imp fun h e => by omega) fun x => ?_
  · obtain ⟨v, hv⟩ := hko p hp
    obtain ⟨x, _, hx, _⟩ := Maps.keyOf_i64 Try.underlying3 hv
    exact ⟨x, hx⟩
  · rw [hs.1 x, ksL_mem, decide_eq_true_iff]
    constructor
    · rintro ⟨c, rfl, _, h⟩
      exact ⟨by omega, by rw [Int.toNat_natCast]; exact h⟩
    · rintro ⟨h0, h1⟩
      refine ⟨x.toNat, by omega, ?_, h1⟩
      rcases Nat.lt_or_ge x.toNat K with h | h
      · exact h
      · rw [hK _ h] at h1; cases h1
theorem sort_is {ss ts : List Int} (h : ss.Perm ts) (hs : ts.Pairwise (· < ·)) : ss.mergeSort (fun x y => decide (x ≤ y)) = ts := by
  rw [mergeSort_of_perm_i h]
  refine List.mergeSort_of_pairwise ?_
  exact hs.imp fun h => by simp only [leI, decide_eq_true_eq]; omega

theorem sortsA (m : Nat) : AnyZI.SortsIn Try.prog sortedA_ren Fence.wide m :=
  ⟨fun blk off cap ss W hH hblk hsz => callsIn_wide.2 (AnyM.slices_Sort_int sortA blk off cap ss W hH hblk hsz),
   fun p cap W => callsIn_wide.2 (AnyM.slices_Sort_int_none sortA p cap W)⟩

theorem keys_any (mb : Option Nat) (W : World) : Calls Try.prog 46 #[.map mb] W fun e w' => e = .returned (.func (.func 58) #[] #[.pointer (some ⟨W.heap.size, 0, none⟩)]) ∧ w' = W.alloc (.cells #[.map mb] 89) :=
  (callsIn_wide (n := 5)).1 (AnyZI.keys_in keysA Fence.wide 5 trivial rfl mb W)

set_option maxHeartbeats 1000000 in
theorem sortedKeys_any (g m K : Nat) (N : Nat → Nat) (w : World) (h : CMap w g m N) (hK : ∀ k, K ≤ k → N k = 0) (hm : m ≤ 1000000) :
    Calls Try.prog 34 #[.func (.func 58) #[] #[.pointer (some ⟨w.heap.size, 0, none⟩)]] (w.alloc (.cells #[.map (some g)] 89)) fun e w' => ∃ v, e = .returned v ∧ OwnL .i64 3 w' (w.heap.size + 1) v (ksL K N) ∧ Below (w.heap.size + 1) (w.alloc (.cells #[.map (some g)] 89)) w' := by
  obtain ⟨D, ho, hs⟩ := h
  have hbl := ho.lt
  have hsz := ho.size_le
  have hp := keys_perm ho hs hK
  have hseq : SeqGives Fence.wide 2 Try.prog 58 #[.pointer (some ⟨w.heap.size, 0, none⟩)] encZ (fun ss => ss.Perm (intKeys D)) (Maps.size D) (w.alloc (.cells #[.map (some g)] 89)) :=
    AnyZI.keys_gives (ρ := keysA_ren) { keysA with } Fence.wide _ trivial rfl (by omega) w.heap.size g m D _ (by simp) (by simp) (by
      obtain ⟨es, clock, hb, Ft, hs, hD⟩ := ho
      exact ⟨es, clock, (Below.heap_alloc _ _ g hbl).trans hb, Ft, hs, hD⟩)
  have cS := AnyZI.sorted_in sortedA Fence.wide 5 trivial trivial trivial trivial rfl (by omega) (sortsA _) (enters_of Try.func49 (by kernel_rfl) rfl) 58 #[.pointer (some ⟨w.heap.size, 0, none⟩)] trivial (enters_of Try.func58 (by kernel_rfl) rfl) _ _ (by unfold maxLen; omega) (by omega) _ hseq
  change CallsIn _ _ Try.prog 34 _ _ _ at cS
  refine ((callsIn_wide (n := 5)).1 cS).mono ?_
  rintro e w' ⟨v, ss, rfl, hS, hrow, _, hb⟩
  rw [World.size_alloc] at hrow hb
  have e1 := sort_is (hS.trans hp.symm) (ksL_sorted K N)
  have e2 : ss.length = (ksL K N).length := (hS.trans hp.symm).length_eq
  rw [e1, e2] at hrow
  exact ⟨v, rfl, hrow, hb⟩
end Go.Proofs.Ytnakadlhafggkaa
