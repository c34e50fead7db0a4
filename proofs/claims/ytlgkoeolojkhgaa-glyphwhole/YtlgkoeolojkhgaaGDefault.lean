/-
  What the program's Default returns, and the reference's: the first k names of the usual ones.
-/
import Derived.Test.YtlgkoeolojkhgaaGParseW
import Derived.Lib.OwnKind
namespace Go.Proofs.Ytlgkoeolojkhgaa
open Go.RowKit

def usual : ByteArray := ⟨#[97, 98, 99, 100, 101, 102, 103, 104, 105, 106, 107, 108, 109, 110, 111, 112, 113, 114, 115, 116, 117, 118, 119, 120, 121, 122, 65, 66, 67, 68, 69, 70, 71, 72, 73, 74, 75, 76, 77, 78, 79, 80, 81, 82, 83, 84, 85, 86, 87, 88, 89, 90, 48, 49, 50, 51, 52, 53, 54, 55, 56, 57, 45, 95]⟩
def usualL : List Int := usual.data.toList.map fun x => (x.toNat : Int)
def dflV (k : Int) : List Int := if 1 ≤ k ∧ k ≤ 64 then usualL.take k.toNat else []

theorem usual_size : usual.size = 64 := rfl
theorem usualL_len : usualL.length = 64 := rfl
theorem usual_bt : ∀ i, i < 64 → (bt usual i : Int) = usualL.getD i 0 ∧ bt usual i < 128 := by decide

theorem take_u {j : Nat} (h : j < 64) : usualL.take (j + 1) = usualL.take j ++ [(bt usual j : Int)] := by
  have h1 : j < usualL.length := by rw [usualL_len]; exact h
  rw [(usual_bt j h).1, List.take_add_one]; simp [h1]

theorem cut_size {k : Nat} (h : k ≤ 64) : (usual.extract 0 k).size = k := by
  rw [ByteArray.size_extract, usual_size]; omega
theorem cut_bt {k i : Nat} (h : k ≤ 64) (hi : i < k) : bt (usual.extract 0 k) i = bt usual i := by
  rw [← bt_get _ i (by rw [cut_size h]; exact hi), ← bt_get usual i (by rw [usual_size]; omega)]
  simp [ByteArray.getElem_extract]
theorem cut_dec {k i : Nat} (h : k ≤ 64) (hi : i < k) : Utf8.decode (usual.extract 0 k) i = (bt usual i, 1) := by
  have := cut_bt h hi
  rw [dec_one (by rw [this]; exact (usual_bt i (by omega)).2), this]

theorem OwnL.ne_iter {q : IntKind} {t : TypeId} {w : World} {B : Nat} {v : Value} {l : List Int} (h : OwnL q t w B v l) {k : Nat} {s : ByteArray} {p : Nat} (hk : w.heap[k]? = some (.stringIter s p)) : some k ≠ v.ownBlock := by
  intro e
  obtain ⟨c, fz, hc⟩ := Lib.ownsRow_kind h k e.symm
  rw [hk] at hc
  simp at hc
theorem OwnL.iterAt' {q : IntKind} {t : TypeId} {w : World} {B : Nat} {v : Value} {l : List Int} (h : OwnL q t w B v l) {k : Nat} {s : ByteArray} {p : Nat} (hk : w.heap[k]? = some (.stringIter s p)) (p' : Nat) : OwnL q t (w.iterAt k s p') B v l := by
  have hne := h.ne_iter hk
  refine World.ownsRow.kept (row := some k) h ⟨rfl, rfl, rfl, by rw [Lib.iterAt_size]; exact Nat.le_refl _, fun i _ hi => Lib.iterAt_other _ _ _ _ _ (fun e => hi (by rw [e]))⟩ (.inr (Ne.symm hne))

set_option maxRecDepth 100000 in
set_option maxHeartbeats 2000000 in
theorem Default_any (k : Int) (w : World) :
    Calls Try.prog 21 #[.int .i64 k] w fun e w' => ∃ v, e = .returned v ∧ OwnL .i32 21 w' w.heap.size v (dflV k) ∧ Below w.heap.size w w' := by
  by_cases h1 : k < 1
  · have H := hide (show dflV k = [] by unfold dflV; rw [if_neg (by omega)])
    go_enter Try.func21, Try.ntmps21
    go_wp2
    go_ret
    exact ⟨_, rfl, by rw [unhide H]; exact OwnL.nil _ _ _ _, Below.refl _ _⟩
  by_cases h2 : 64 < k
  · have H := hide (show dflV k = [] by unfold dflV; rw [if_neg (by omega)])
    go_enter Try.func21, Try.ntmps21
    go_wp2
    go_ret
    exact ⟨_, rfl, by rw [unhide H]; exact OwnL.nil _ _ _ _, Below.refl _ _⟩
  obtain ⟨n, rfl⟩ : ∃ n : Nat, k = n := ⟨k.toNat, by omega⟩
  have H := hide (show dflV n = usualL.take n by unfold dflV; rw [if_pos (by omega), Int.toNat_natCast])
  have hn : n ≤ 64 := by omega
  go_enter Try.func21, Try.ntmps21
  go_wp2_with (at_make; refine wpl_roomL e32 rfl (.const (.int .i64 0)) (.tmp 12) rfl w.heap.size n n rfl rfl rfl (by omega) (Nat.le_refl _) ?_; intro w1 hown1 hb1)
  have hS : ∃ S : ByteArray, S = usual.extract 0 n := ⟨_, rfl⟩
  obtain ⟨S, hS⟩ := hS
  have hSz : S.size = n := by rw [hS]; exact cut_size hn
  have HSd := hide (fun i (hi : i < n) => show Utf8.decode S i = (bt usual i, 1) by rw [hS]; exact cut_dec hn hi)
  have hS2 : (ByteArray.mk #[97, 98, 99, 100, 101, 102, 103, 104, 105, 106, 107, 108, 109, 110, 111, 112, 113, 114, 115, 116, 117, 118, 119, 120, 121, 122, 65, 66, 67, 68, 69, 70, 71, 72, 73, 74, 75, 76, 77, 78, 79, 80, 81, 82, 83, 84, 85, 86, 87, 88, 89, 90, 48, 49, 50, 51, 52, 53, 54, 55, 56, 57, 45, 95]).extract 0 n = S := hS.symm
  rw [hS2]
  clear hS hS2
  have hs1 := hb1.size
  go_loopw [3] (fun v wr => ∃ pos : Nat, pos ≤ n ∧ OwnL .i32 21 wr w.heap.size v (usualL.take pos) ∧ wr.heap[w1.heap.size]? = some (.stringIter S pos) ∧ Below w.heap.size w wr) (fun _ wr => n - wr.iterPos w1.heap.size)
  case atStart =>
    refine ⟨0, Nat.zero_le _, hown1.alloc _, ?_, hb1.alloc hs1 _⟩
    have := World.iter_heap w1 S 0
    simpa using this
  case round =>
    obtain ⟨pos, hps, hI, hit, hbw⟩ := hrel
    have hmeas : wr.iterPos w1.heap.size = pos := iterPos_of hit
    by_cases hp : pos < n
    · have hnx : ∀ ty, (Instr.next (.pointer (some ⟨w1.heap.size, 0, none⟩)) true ty).run Try.prog wr = .ok (.tuple #[.bool true, .int .i64 pos, .int .i32 (bt usual pos)]) (wr.iterAt w1.heap.size S (pos + 1)) := fun ty => by
        rw [Lib.run_next_any_at wr w1.heap.size S pos ty hit (by omega), unhide HSd pos hp]
      have I1 := hI.iterAt' hit (pos + 1)
      have it1 := Lib.iterAt_heap wr w1.heap.size S pos (pos + 1) hit
      have bw1 := Lib.below_iterAt hbw (k := w1.heap.size) hs1 S (pos + 1)
      clear hI hit hbw
      generalize wr.iterAt w1.heap.size S (pos + 1) = w2 at *
      have hlt : w1.heap.size < w2.heap.size := (Array.getElem?_eq_some_iff.1 it1).1
      have HT := hide (take_u (show pos < 64 by omega))
      have it2 : (w2.alloc (.cells #[.int .i32 (bt usual pos)] 21)).heap[w1.heap.size]? = some (.stringIter S (pos + 1)) := (Lib.alloc_old _ _ _ hlt).trans it1
      have htl : (usualL.take pos).length = pos := by rw [List.length_take, usualL_len]; omega
      have hne := I1.ne_iter it1
      have I2 := I1.alloc (.cells #[.int .i32 (bt usual pos)] 21)
      generalize (bt usual pos : Int) = r at *
      go_wp2_with (at_builtin; refine wpl_pushL e32 rfl (.tmp 20) (.tmp 22) rfl w.heap.size _ (usualL.take pos) rfl I2 (some ⟨w2.heap.size, 0, none⟩) 1 [r] rfl (RdL.one _ _) (by intro h; cases h) (by simp only [List.length_cons, List.length_nil]; omega) (by simp; omega) ?_; intro v2 w3 hown2 hb2 hg2)
      go_roundw
      case rel => exact ⟨pos + 1, by omega, by rw [unhide HT]; exact hown2, (hg2.block _ (by simp; omega) hne).trans it2, (balloc' bw1 _).trans hb2⟩
      case measure =>
        rw [iterPos_of ((hg2.block _ (by simp; omega) hne).trans it2), hmeas]
        omega
    · have hnx : ∀ ty, (Instr.next (.pointer (some ⟨w1.heap.size, 0, none⟩)) true ty).run Try.prog wr = _ := fun ty => Lib.run_next_end_at wr w1.heap.size S pos ty hit (by omega)
      obtain rfl : pos = n := by omega
      go_wp2
      go_ret
      exact ⟨_, rfl, by rw [unhide H]; exact hI, hbw⟩

end Go.Proofs.Ytlgkoeolojkhgaa
