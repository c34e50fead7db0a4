/-
  The reference's Import, for every text.
-/
import Derived.Test.YtdnmabemollbeaaDoorTRImM
import Derived.Test.YtdnmabemollbeaaDoorTRImD
namespace Go.Proofs.YtdnmabemollbeaaDoor
open Go.RowKit

set_option maxRecDepth 100000 in
set_option maxHeartbeats 4000000 in
theorem rimport_d_bad (a : Option Addr) (c : Nat) (b : List UInt8) (w : World) (hr : RdL .u8 w a (zs b)) (hb : b.length ≤ 20000) (hm : ¬ b.head? = some 109) (p : Nat) (er : Int) (ht : tk b 0 (hdR 1) = .error (p, er)) :
    Calls Tryd.prog 20 #[.slice a b.length c] w fun e w' => RiPost w w' b e := by
  have hb' : ¬ (16777216 < (b.length : Int)) := by omega
  have hkd : kdR b = 1 := by unfold kdR; rw [if_neg hm]
  have HE := hide (ri_bad hb hkd ht)
  have hne : 0 < er := (tk_err ((good_hd 1).app (fun lo hi e h => by simp at h)).errs ht).1
  have hBW := riW_below 1 w
  have hBT := balloc hBW (.cells #[.string ⟨#[100, 102, 97, 32]⟩, .int .i64 0, .int .i64 0, .int .i64 0, .string ⟨#[]⟩, .int .i64 1, .int .i64 64, .int .i64 1, .string ⟨#[32]⟩, .int .i64 0, .int .i64 0, .int .i64 0, .string ⟨#[]⟩, .int .i64 1, .int .i64 1024, .int .i64 3, .string ⟨#[10]⟩, .int .i64 0, .int .i64 0, .int .i64 0] 73)
  have htk := take_any a c b 0 (riW 1 w).heap.size 5 (hdR 1) _ (hr.below hBT) (by omega) (Nat.zero_le _) (row_d (riW 1 w) 73) ok_d (by decide)
  have HRS := hide (Rs.start 1 w (.cells #[.string ⟨#[100, 102, 97, 32]⟩, .int .i64 0, .int .i64 0, .int .i64 0, .string ⟨#[]⟩, .int .i64 1, .int .i64 64, .int .i64 1, .string ⟨#[32]⟩, .int .i64 0, .int .i64 0, .int .i64 0, .string ⟨#[]⟩, .int .i64 1, .int .i64 1024, .int .i64 3, .string ⟨#[10]⟩, .int .i64 0, .int .i64 0, .int .i64 0] 73))
  rw [ht, riW_size] at htk
  unfold TkPost at htk
  have HTK := hide htk
  have HC := hide (hd_byte hr hm)
  clear hm hkd ht hBW hBT htk
  go_enter Tryd.func20, Tryd.ntmps20
  go_upto_region 8 with fail
  go_cut [41] from 33 to 40 (fun v wx => v = .bool false ∧ wx = riW 1 w)
  case first =>
    by_cases h0 : 0 < b.length
    · obtain ⟨g, off, z, rfl, hc, hz⟩ := unhide HC h0
      have h0' : (0 : Int) < (b.length : Int) := by omega
      unfold riW at hc
      clear HTK HRS HC HE hr
      go_wp2
      go_meet
      exact ⟨rfl, rfl⟩
    · have h0' : ¬ (0 : Int) < (b.length : Int) := by omega
      clear HTK HRS HC HE hr
      go_wp2
      go_meet
      exact ⟨rfl, rfl⟩
  case rest =>
  obtain ⟨rfl, rfl⟩ := hcut
  obtain ⟨k0, k1, k2, k3⟩ := riW_k 1 w
  obtain ⟨n0, n1, n2, n3⟩ := riW_n 1 w
  obtain ⟨s0, s1, s2, s3⟩ := riW_b 1 w
  obtain ⟨e0, e1, e2, e3⟩ := riW_e 1 w
  have hsz0 := riW_size 1 w
  go_wp2_with fail
  refine (unhide HTK).mono ?_
  rintro e w2 ⟨rfl, hb2⟩
  have h9 := (unhide HRS).below (by exact hb2)
  have b2 := h9.bw
  have Z2 := h9.zr
  have FT := h9.fz
  have hsz2 : w.heap.size < w2.heap.size := World.block_lt_of_cell? w2 _ Z2.p0
  clear HTK HC k0 k1 k2 k3 n0 n1 n2 n3 s0 s1 s2 s3 e0 e1 e2 e3 HRS hsz0 hb2 h9
  obtain ⟨z0, z1, z2, z3, z4, z5⟩ := id Z2
  have f0 := FT 0
  have f1 := FT 1
  have f2 := FT 2
  have f3 := FT 3
  have f4 := FT 4
  have f5 := FT 5
  go_wp2
  change bodyPost _ _ _ _ _ (six w2 w.heap.size mcZ none 0 none 0)
  have b3 := six_below b2 (b := w.heap.size) (by omega) mcZ none 0 none 0
  have Z3 : Box (six w2 w.heap.size mcZ none 0 none 0) _ _ _ _ _ _ := Z2.six mcZ none 0 none 0
  generalize six w2 w.heap.size mcZ none 0 none 0 = w9 at *
  obtain ⟨q0, q1, q2, q3, q4, q5⟩ := Z3
  refine bodyPost_ret (v := .tuple #[mval mcZ none 0 none 0, .int .i64 er, .int .i64 (p : Int)]) ?_ rfl ⟨none, 0, none, 0, by rw [unhide HE], by rw [unhide HE]; exact ⟨OwnL.nil _ _ _ _, OwnL.nil _ _ _ _, fun x e => by cases e⟩, b3⟩
  unfold mval
  simp [results, Tryd.results20, go_sem, q0, q1, q2, q3, q4, q5]

/-- What Import answers, for every text that is not longer than 20000 bytes. -/
theorem rimport_any (a : Option Addr) (c : Nat) (b : List UInt8) (w : World) (hr : RdL .u8 w a (zs b)) (hb : b.length ≤ 20000) :
    Calls Tryd.prog 20 #[.slice a b.length c] w fun e w' => RiPost w w' b e := by
  by_cases hm : b.head? = some 109
  · cases ht : tk b 0 (hdR 2) with
    | error x => exact rimport_m_bad a c b w hr hb hm x.1 x.2 ht
    | ok x => exact rimport_m_ok a c b w hr hb hm x.1 x.2 ht
  · cases ht : tk b 0 (hdR 1) with
    | error x => exact rimport_d_bad a c b w hr hb hm x.1 x.2 ht
    | ok x => exact rimport_d_ok a c b w hr hb hm x.1 x.2 ht

end Go.Proofs.YtdnmabemollbeaaDoor
