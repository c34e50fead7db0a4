/-
  What the package-level variables hold that the calls read: the powers of ten, the handle of the type error; the program's Put.
-/
import Derived.Test.YtdnmabemollbeaaDoorTLay
import Derived.Test.YtdnmabemollbeaaDoorTByt
namespace Go.Proofs.YtdnmabemollbeaaDoor
open Go.RowKit Go.Shelf

/-- The variables as start-up lays them. -/
structure Gl (w : World) : Prop where
  pow : Lib.TabIs Tryd.prog w "internal/strconv.uint64pow10" .u64 Lib.pow10Tab
  typ : w.cell? ⟨0, 0, none⟩ = some (.iface 123 (.agg #[.pointer (some ⟨4, 65, none⟩)]))
  sz : 4 ≤ w.heap.size
theorem Gl.below {w w' : World} (h : Gl w) (hb : Below w.heap.size w w') : Gl w' :=
  ⟨Lib.tabBelow_of_tabIs h.pow w' hb, by
    have := World.block_lt_of_cell? w _ h.typ
    rw [hb.cell (by exact this)]
    exact h.typ, Nat.le_trans h.sz hb.size⟩

def Fit (x : Int) : Prop := -9223372036854775808 ≤ x ∧ x ≤ 9223372036854775807

theorem put_any (n : Int) (w : World) (hn : Fit n) (g : Gl w) :
    Calls Tryd.prog 23 #[.int .i64 n] w fun e w' => ∃ v, e = .returned v ∧ OwnL .u8 5 w' w.heap.size v (zs (Lib.itoa n)) ∧ Below w.heap.size w w' := by
  have hc := Any.strconv_AppendInt_10 lays176 w.heap.size 0 n hn.1 hn.2 (.slice none 0 0) [] w (World.ownsRow_nil _ _ _ _) (Nat.le_refl _) (by decide) (Lib.tabBelow_of_tabIs g.pow)
  go_enter Tryd.func23, Tryd.ntmps23
  go_wp2_with (go_at_call 38; refine hc.mono ?_; rintro e w1 ⟨v1, rfl, hown1, hb1, -⟩)
  go_ret
  refine ⟨v1, rfl, ?_, hb1⟩
  unfold OwnL
  rw [zs_cells, zs_len]
  rw [Nat.zero_add, List.nil_append] at hown1
  exact hown1

end Go.Proofs.YtdnmabemollbeaaDoor
