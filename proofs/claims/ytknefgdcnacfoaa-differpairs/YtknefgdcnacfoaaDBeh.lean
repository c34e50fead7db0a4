/-
  What saidBehind of differ returns: what is said last if a symbol comes ahead of a word.
-/
import Derived.Test.YtknefgdcnacfoaaK20
import Derived.Test.YtknefgdcnacfoaaUSiv
import Derived.Test.YtknefgdcnacfoaaK1
namespace Go.Proofs.Ytknefgdcnacfoaa
open Go.RowKit

/-- What is said last of w, of each state. -/
def sdL (m : Mc) (n : Nat) (w : List Int) : List Int := (List.range n).map fun s => lst m w ((s : Nat) : Int)
theorem sdL_len (m : Mc) (n : Nat) (w : List Int) : (sdL m n w).length = n := by simp [sdL]
theorem sdL_at {m : Mc} {n s : Nat} {w : List Int} (h : s < n) : (sdL m n w).getD s 0 = lst m w ((s : Nat) : Int) := by simp [sdL, List.getD, h]

set_option maxRecDepth 100000 in
set_option maxHeartbeats 2000000 in
theorem saidBehind_any (m : Mc) (a1 : Option Addr) (c1 : Nat) (a2 : Option Addr) (c2 : Nat) (n k x : Nat) (sd : List Int) (sa : Option Addr) (sc : Nat) (w : World) (R : Right m) (hn : m.n = (n : Int)) (hk : m.k = (k : Int)) (h1 : RdL .i64 w a1 m.nx) (hx : x < k) (hr : RdL .i64 w sa sd) (hl : sd.length = n) :
    Calls Try.prog 53 #[mval m a1 c1 a2 c2, .int .i64 (x : Int), .slice sa n sc] w fun e w' => ∃ v, e = .returned v ∧ Own w' w.heap.size v n (fun s => sd.getD (nxt m ((s : Nat) : Int) (x : Int)).toNat 0) ∧ Below w.heap.size w w' := by
  have n0 := R.n0
  have n1 := R.n1
  have k0 := R.k0
  have k1 := R.k1
  obtain ⟨w0, hw0⟩ : ∃ w0, w0 = w.alloc (.cells #[.int .i64 m.kind, .int .i64 m.k, .int .i64 m.o, .int .i64 m.n, .slice a1 m.nx.length c1, .slice a2 m.out.length c2] 24) := ⟨_, rfl⟩
  have b0 : Below w.heap.size w w0 := by rw [hw0]; exact ballo _ _
  have A0 : Box w0 w.heap.size m a1 c1 a2 c2 := by rw [hw0]; exact Box.alloc w m a1 c1 a2 c2 24
  have z0 : w0.heap.size = w.heap.size + 1 := by rw [hw0]; simp
  obtain ⟨ab, ao, ea, hrc⟩ := hr.at (i := 0) (by omega)
  subst ea
  have hab : ab < w.heap.size := World.block_lt_of_cell? w _ (hrc 0 (by omega))
  have nxp : 0 < m.nx.length := by
    have h3 := R.nx
    have h4 : 1 * 1 ≤ m.n * m.k := Int.mul_le_mul R.n0 R.k0 (by omega) (by omega)
    omega
  obtain ⟨xb, xo, ex, hxc⟩ := h1.at (i := 0) nxp
  have hxb : xb < w.heap.size := World.block_lt_of_cell? w _ (hxc 0 nxp)
  have HA := hide A0
  have HB0 := hide b0
  have HZ0 := hide z0
  have HR := hide R
  have HN := hide hn
  have HK := hide hk
  have HRC : Hid (∀ i, i < n → w.cell? ⟨ab, ao + i, none⟩ = some (.int .i64 (sd.getD i 0))) := fun i hi => hrc i (by omega)
  have HXC := hide hxc
  have HEX := hide ex
  obtain ⟨p0, p1, p2, p3, p4, p5⟩ := A0
  rw [hn] at p3
  rw [hw0] at p3
  unfold mval
  clear R hn hk hr hrc hxc ex b0 z0 p0 p1 p2 p4 p5 h1
  have hn1 : 1 ≤ n := by have := unhide HN; omega
  have hn2 : n ≤ 1024 := by have := unhide HN; omega
  go_enter Try.func53, Try.ntmps53
  go_wp2_with (at_make; rw [← hw0]; refine wpl_make rfl (.tmp 10) (.tmp 10) rfl w0.heap.size _ _ n rfl rfl rfl rfl (by omega) (Nat.le_refl _) ?_; intro w1 hown1 hb1 _)
  rw [unhide HZ0] at hown1 hb1
  have HO1 : Hid (Own w1 (w.heap.size + 1) (.slice (some ⟨w.heap.size + 1, 0, none⟩) n n) n (fun s => if s < 0 then sd.getD (nxt m ((s : Nat) : Int) (x : Int)).toNat 0 else 0)) := hown1.congr fun i _ => by rw [if_neg (by omega)]
  have HB1 := hide hb1
  clear hown1 hb1 p3 hw0
  go_loopw [14] (fun v wx => ∃ j : Nat, v = .int .i64 j ∧ j ≤ n ∧ Own wx (w.heap.size + 1) (.slice (some ⟨w.heap.size + 1, 0, none⟩) n n) n (fun s => if s < j then sd.getD (nxt m ((s : Nat) : Int) (x : Int)).toNat 0 else 0) ∧ Below (w.heap.size + 1) w0 wx) (fun v _ => n - (intOf v).toNat)
  case atStart => exact ⟨0, rfl, Nat.zero_le _, unhide HO1, unhide HB1⟩
  case round =>
    obtain ⟨j, rfl, hj, hown, hbx⟩ := hrel
    clear HO1 HB1
    have HOW := hide hown
    have HBX := hide hbx
    by_cases hlt : j < n
    · have hlt' : (j : Int) < (n : Int) := by omega
      obtain ⟨g', c', e, -, -, -, -, hc, hf⟩ := hown.pos (by omega)
      obtain ⟨rfl, rfl⟩ : (w.heap.size + 1) = g' ∧ n = c' := by cases e; exact ⟨rfl, rfl⟩
      obtain ⟨q, hcj⟩ : ∃ q, wr.cell? ⟨w.heap.size + 1, j, none⟩ = some (.int .i64 q) := ⟨_, hc j hlt⟩
      have hfj := hf j
      obtain ⟨P, hP, hPl, x0, x1, x2⟩ := way_of (unhide HR) (s := (j : Int)) (by omega) (by have := unhide HN; omega) (x := (x : Int)) (by omega) (by have := unhide HK; omega)
      have hBW : Below w.heap.size w wr := (unhide HB0).trans (hbx.mono (by omega))
      have hnP : wr.cell? ⟨xb, xo + P, none⟩ = some (.int .i64 (m.nx.getD P 0)) := (hBW.cell hxb).trans (unhide HXC P hPl)
      have rP := (unhide HR).st P hPl
      obtain ⟨u, hu⟩ := Int.eq_ofNat_of_zero_le rP.1
      have hun : u < n := by have := unhide HN; omega
      have hsU : wr.cell? ⟨ab, ao + u, none⟩ = some (.int .i64 (sd.getD u 0)) := (hBW.cell hab).trans (unhide HRC u hun)
      have HEU : Hid (nxt m ((j : Nat) : Int) (x : Int) = (u : Int)) := by show _ = _; unfold nxt; rw [hP, Int.toNat_natCast, hu]
      rw [hu] at hnP
      obtain ⟨p0, p1, p2, p3, p4, p5⟩ := (unhide HA).below (by rw [unhide HZ0]; exact hbx)
      rw [unhide HEX] at p4
      have hPl' : (P : Int) < (m.nx.length : Int) := by omega
      have hun' : (u : Int) < (n : Int) := by omega
      obtain ⟨y, hy⟩ : ∃ y, y = sd.getD u 0 := ⟨_, rfl⟩
      have HY := hide hy
      rw [← hy] at hsU
      have hx' : (x : Int) < 64 := by have := unhide HK; omega
      clear hc hf e hown hbx hBW rP hu hy p0 p2 p3 p5
      go_wp2
      go_roundw
      case rel =>
        refine ⟨j + 1, by go_num, hlt, ((unhide HOW).store j y).congr fun s hs => ?_, (unhide HBX).setCell (p := ⟨w.heap.size + 1, j, none⟩) (Nat.le_refl _) _⟩
        unfold setF
        by_cases c : s = j
        · rw [if_pos c, if_pos (by omega), c, unhide HEU, Int.toNat_natCast, unhide HY]
        · rw [if_neg c]
          show (if s < j then sd.getD (nxt m ((s : Nat) : Int) (x : Int)).toNat 0 else 0) = _
          by_cases d : s < j
          · rw [if_pos d, if_pos (by omega)]
          · rw [if_neg d, if_neg (by omega)]
      case measure => simp [intOf]; omega
    · have hlt' : ¬ (j : Int) < (n : Int) := by omega
      clear hown hbx
      go_wp2
      go_ret
      refine ⟨_, rfl, Own.base ((unhide HOW).congr fun s hs => by rw [if_pos (by omega)]; rfl) (by omega), (unhide HB0).trans ((unhide HBX).mono (by omega))⟩
end Go.Proofs.Ytknefgdcnacfoaa
