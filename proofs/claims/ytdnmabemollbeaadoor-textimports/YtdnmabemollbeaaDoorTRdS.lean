/-
  The program reads a state's line of either kind; the first line; the end.
-/
import Derived.Test.YtdnmabemollbeaaDoorTRdM
import Derived.Test.YtdnmabemollbeaaDoorUImp
namespace Go.Proofs.YtdnmabemollbeaaDoor
open Go.RowKit

theorem readState_any (sb mb B : Nat) (a : Option Addr) (c : Nat) (b : List UInt8) (i0 : Nat) (kd k o n : Int) (vn vo : Value) (nx out : List Int) (w : World) (hS : Sr w sb a c b i0) (hM : Mo w mb B kd k o n vn vo nx out)
    (hb : b.length ≤ 140737488355328) (hm : mb < sb) (hB : sb < B) (hBw : B ≤ w.heap.size) (ha : 0 < b.length → ∀ x, a = some x → x.block < mb) (hk0 : 1 ≤ k) (hk1 : k ≤ 64) (ho0 : 1 ≤ o) (ho1 : o ≤ 64) (hn0 : 1 ≤ n) (hn1 : n ≤ 1024) (hnx : nx.length ≤ 100000) (hout : out.length ≤ 100000) :
    Calls Tryd.prog 50 #[fv sb, .pointer (some ⟨mb, 0, none⟩)] w fun e w' => e = .returned (rdE (tk b i0 (stP kd k o n))) ∧ StPost w w' sb mb B a c b kd k o n nx out (tk b i0 (stP kd k o n)) := by
  obtain ⟨p0, p1, p2, p3, p4, p5, pf, -, -, -⟩ := id hM
  unfold stP
  by_cases hk : kd = 1
  · rw [if_pos hk]
    have hc := readDfa_any sb mb B a c b i0 kd k o n vn vo nx out w hS hM hb hm hB hBw ha hk0 hk1 ho0 ho1 hn0 hn1 hnx hout
    have t1 : (kd == 1) = true := by simp [hk]
    clear hk
    unfold fv at hc ⊢
    go_enter Tryd.func50, Tryd.ntmps50
    go_wp2_with fail
    refine hc.mono ?_
    rintro e w1 ⟨rfl, hp⟩
    go_wp2
    go_ret
    exact ⟨rfl, hp⟩
  · rw [if_neg hk]
    have hc := readMealy_any sb mb B a c b i0 kd k o n vn vo nx out w hS hM hb hm hB hBw ha hk0 hk1 ho0 ho1 hn0 hn1 hnx hout
    have t1 : (kd == 1) = false := by simpa using hk
    clear hk
    unfold fv at hc ⊢
    go_enter Tryd.func50, Tryd.ntmps50
    go_wp2_with fail
    refine hc.mono ?_
    rintro e w1 ⟨rfl, hp⟩
    go_wp2
    go_ret
    exact ⟨rfl, hp⟩

theorem head_at {b : List UInt8} (h : 0 < b.length) (c : UInt8) : b.head? = some c ↔ bt8 b 0 = (c.toNat : Int) := by
  rw [← byte_eq h]; cases b <;> simp
theorem kindOf_any (a : Option Addr) (c : Nat) (b : List UInt8) (w : World) (hr : RdL .u8 w a (zs b)) :
    Calls Tryd.prog 49 #[.slice a b.length c] w fun e w' => e = .returned (.int .i64 (kdV b)) ∧ w' = w := by
  by_cases h0 : 0 < b.length
  · have h0' : (b.length : Int) > 0 := by omega
    obtain ⟨g, off, rfl, hc⟩ := hr.byte h0
    have hc0 := hc 0 h0
    rw [Nat.add_zero] at hc0
    clear hc
    obtain ⟨hz0, hz1⟩ := bt8_lo b 0
    rcases kdV_cases b with ⟨hk, hh⟩ | ⟨hk, hh⟩
    · have ht : (bt8 b 0 == 100) = true := by rw [(head_at h0 100).1 hh]; rfl
      have HK := hide hk
      clear hk hh
      generalize bt8 b 0 = z at *
      go_enter Tryd.func49, Tryd.ntmps49
      go_wp2
      go_ret
      exact ⟨ret_int (unhide HK).symm, rfl⟩
    · have ht : (bt8 b 0 == 100) = false := by
        have : bt8 b 0 ≠ 100 := fun e => hh ((head_at h0 100).2 e)
        simpa using this
      have HK := hide hk
      clear hk hh
      generalize bt8 b 0 = z at *
      go_enter Tryd.func49, Tryd.ntmps49
      go_wp2
      go_ret
      exact ⟨ret_int (unhide HK).symm, rfl⟩
  · have h1 : ¬ ((b.length : Int) > 0) := by omega
    have HK : Hid (kdV b = 2) := by
      obtain rfl : b = [] := List.length_eq_zero_iff.1 (by omega)
      exact hide rfl
    clear h0
    go_enter Tryd.func49, Tryd.ntmps49
    go_wp2
    go_ret
    exact ⟨ret_int (unhide HK).symm, rfl⟩

end Go.Proofs.YtdnmabemollbeaaDoor
