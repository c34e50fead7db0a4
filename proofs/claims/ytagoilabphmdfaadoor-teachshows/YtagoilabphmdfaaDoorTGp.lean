/-
  What the package-level variable holds that the calls read: the powers of ten; the program's Put and number.
-/
import Derived.Test.YtagoilabphmdfaaDoorTLay
import Derived.Test.YtagoilabphmdfaaDoorTByt
namespace Go.Proofs.YtagoilabphmdfaaDoor
open Go.RowKit Go.Shelf

/-- The variable as start-up lays it. -/
structure Gp (w : World) : Prop where
  pow : Lib.TabIs Tryd.prog w "internal/strconv.uint64pow10" .u64 Lib.pow10Tab
  sz : 3 ≤ w.heap.size
theorem Gp.below {w w' : World} (h : Gp w) (hb : Below w.heap.size w w') : Gp w' := ⟨Lib.tabBelow_of_tabIs h.pow w' hb, Nat.le_trans h.sz hb.size⟩

def FitP (x : Int) : Prop := -9223372036854775808 ≤ x ∧ x ≤ 9223372036854775807

theorem putP_any (n : Int) (w : World) (hn : FitP n) (g : Gp w) :
    Calls Tryd.prog 25 #[.int .i64 n] w fun e w' => ∃ v, e = .returned v ∧ OwnL .u8 5 w' w.heap.size v (zs (Lib.itoa n)) ∧ Below w.heap.size w w' := by
  have hc := Any.strconv_AppendInt_10 lays176 w.heap.size 0 n hn.1 hn.2 (.slice none 0 0) [] w (World.ownsRow_nil _ _ _ _) (Nat.le_refl _) (by decide) (Lib.tabBelow_of_tabIs g.pow)
  go_enter Tryd.func25, Tryd.ntmps25
  go_wp2_with (go_at_call 30; refine hc.mono ?_; rintro e w1 ⟨v1, rfl, hown1, hb1, -⟩)
  go_ret
  refine ⟨v1, rfl, ?_, hb1⟩
  unfold OwnL
  rw [zs_cells, zs_len]
  rw [Nat.zero_add, List.nil_append] at hown1
  exact hown1

end Go.Proofs.YtagoilabphmdfaaDoor
