/-
  The reference's word: does a text stand at a place?
-/
import Derived.Test.YtdnmabemollbeaaDoorTSrc
import Derived.Test.YtdnmabemollbeaaDoorTNum
namespace Go.Proofs.YtdnmabemollbeaaDoor
open Go.RowKit

/-- What word tells. -/
def wdV : Except Nat Nat → Int × Int
  | .ok j => ((j : Int), 0)
  | .error p => (-1, (p : Int))

set_option maxRecDepth 100000 in
set_option maxHeartbeats 4000000 in
theorem word_any (a : Option Addr) (c : Nat) (b : List UInt8) (i0 : Nat) (s : List UInt8) (w : World) (hr : RdL .u8 w a (zs b)) (hs : s.length ≤ 100) (hb : b.length ≤ 140737488355328) (hi0 : i0 ≤ b.length) :
    Calls Tryd.prog 56 #[.slice a b.length c, .int .i64 (i0 : Int), .string ⟨s.toArray⟩] w fun e w' => e = .returned (.tuple #[.int .i64 (wdV (skp b i0 s)).1, .int .i64 (wdV (skp b i0 s)).2]) ∧ Below w.heap.size w w' := by
  have hsz : (⟨s.toArray⟩ : ByteArray).size = s.length := by simp [ByteArray.size]
  go_enter Tryd.func56, Tryd.ntmps56
  go_wp2
  go_loopw [8] (fun i wr => ∃ t : Nat, t ≤ s.length ∧ i0 + t ≤ b.length ∧ i = .int .i64 (t : Int) ∧ Hid (skp b (i0 + t) (s.drop t) = skp b i0 s) ∧ Below w.heap.size w wr) (fun i _ => s.length - (intOf i).toNat)
  case atStart => exact ⟨0, Nat.zero_le _, by omega, rfl, hide rfl, Below.refl _ _⟩
  case round =>
    obtain ⟨t, ht, hit, rfl, HS, hB⟩ := hrel
    by_cases htl : t < s.length
    · have htl' : (t : Int) < (s.length : Int) := by omega
      by_cases hjb : i0 + t < b.length
      · have hjb' : decide ((b.length : Int) ≤ (i0 : Int) + (t : Int)) = false := by simp; omega
        have hjl : (i0 : Int) + (t : Int) < (b.length : Int) := by omega
        obtain ⟨g, off, rfl, hc⟩ := (hr.below hB).byte hjb
        have hcj := hc (i0 + t) hjb
        clear hc
        obtain ⟨x, hxe⟩ : ∃ x : UInt8, x = s.getD t 0 := ⟨_, rfl⟩
        have hxs : ∀ hp : t < (⟨s.toArray⟩ : ByteArray).size, (⟨s.toArray⟩ : ByteArray)[t]'hp = x := fun hp => str_at s htl hp hxe
        have HXE := hide hxe
        clear hxe
        obtain ⟨hz0, hz1⟩ := bt8_lo b (i0 + t)
        by_cases hbx : bt8 b (i0 + t) = (x.toNat : Int)
        · have hne : (bt8 b (i0 + t) != (x.toNat : Int)) = false := by simp [hbx]
          have HON := hide (skp_on htl (by rw [← unhide HXE]; exact (byte_eq hjb).2 hbx))
          clear hbx
          generalize bt8 b (i0 + t) = z at *
          go_wp2
          go_quiet (fail)
          go_wp2
          exact ⟨⟨t + 1, by omega, by omega, by go_num, hide (by rw [show i0 + (t + 1) = i0 + t + 1 by omega, ← unhide HON]; exact unhide HS), below_drewN hB _⟩, by simp [intOf]; omega⟩
        · have hne : (bt8 b (i0 + t) != (x.toNat : Int)) = true := by simpa using hbx
          have HNO := hide (skp_no htl (fun e => hbx ((byte_eq hjb).1 (by rw [unhide HXE]; exact e))))
          rw [unhide HS] at HNO
          clear hbx
          generalize bt8 b (i0 + t) = z at *
          go_wp2
          go_quiet (fail)
          go_wp2
          go_ret2
          exact ⟨by rw [unhide HNO]; rfl, below_drewN hB _⟩
      · have hjb' : decide ((b.length : Int) ≤ (i0 : Int) + (t : Int)) = true := by simp; omega
        have HNO := hide (skp_no (b := b) (i := i0 + t) htl (by rw [List.getElem?_eq_none (by omega)]; simp))
        rw [unhide HS] at HNO
        go_wp2
        go_quiet (fail)
        go_wp2
        go_ret2
        exact ⟨by rw [unhide HNO]; rfl, below_drewN hB _⟩
    · have HE := unhide HS
      rw [List.drop_eq_nil_of_le (by omega)] at HE
      have HE2 := hide HE
      clear HE
      have hge : ¬ ((t : Int) < (s.length : Int)) := by omega
      obtain rfl : t = s.length := by omega
      go_wp2
      go_ret2
      exact ⟨by rw [← unhide HE2]; rfl, hB⟩

end Go.Proofs.YtdnmabemollbeaaDoor
