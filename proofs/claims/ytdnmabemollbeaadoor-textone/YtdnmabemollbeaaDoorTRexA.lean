/-
  The reference's Export, of any machine.
-/
import Derived.Test.YtdnmabemollbeaaDoorTRem
namespace Go.Proofs.YtdnmabemollbeaaDoor
open Go.RowKit

set_option maxRecDepth 100000 in
set_option maxHeartbeats 4000000 in
theorem rexport_any (m : Mc) (a1 : Option Addr) (c1 : Nat) (a2 : Option Addr) (c2 : Nat) (w : World) (h1 : RdL .i64 w a1 m.nx) (h2 : RdL .i64 w a2 m.out) (hn : m.nx.length ≤ maxLen) (ho : m.out.length ≤ maxLen) :
    Calls Tryd.prog 15 #[mval m a1 c1 a2 c2] w fun e w' => ∃ v, e = .returned (.tuple #[v, .int .i64 (expV m).2]) ∧ OwnL .u8 5 w' w.heap.size v (zs (expV m).1) ∧ Below w.heap.size w w' := by
  by_cases hm : (mchV m).2 = 0
  · rcases (full_of hm).r.kd with hk | hk
    · exact rexport_d m a1 c1 a2 c2 w h1 h2 hn ho hm hk
    · exact rexport_m m a1 c1 a2 c2 w h1 h2 hn ho hm hk
  · have hbB : Below w.heap.size w (w.alloc (.cells #[.int .i64 m.kind, .int .i64 m.k, .int .i64 m.o, .int .i64 m.n, .slice a1 m.nx.length c1, .slice a2 m.out.length c2] 24)) := (Below.refl _ _).alloc (Nat.le_refl _) _
    have hc := rmcheck_any m a1 c1 a2 c2 (w.alloc (.cells #[.int .i64 m.kind, .int .i64 m.k, .int .i64 m.o, .int .i64 m.n, .slice a1 m.nx.length c1, .slice a2 m.out.length c2] 24)) (h1.below hbB) (h2.below hbB) hn ho
    unfold mval at hc ⊢
    have HX := hide (expV_bad hm)
    have ne1 := mch_ne hm
    clear hm
    go_enter Tryd.func15, Tryd.ntmps15
    go_wp2_with fail
    refine hc.mono ?_
    rintro e w1 ⟨rfl, hb1⟩
    go_wp2
    go_ret2
    refine ⟨_, ret_vi (by rw [unhide HX]), ?_, hbB.trans (hb1.mono (by simp))⟩
    rw [unhide HX]; exact OwnL.nil _ _ _ _

end Go.Proofs.YtdnmabemollbeaaDoor
