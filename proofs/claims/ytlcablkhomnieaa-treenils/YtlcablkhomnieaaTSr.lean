/-
  A reader's object in memory.
-/
import Derived.Test.YtlcablkhomnieaaTNum
import Derived.Test.YtlcablkhomnieaaK1
namespace Go.Proofs.Ytlcablkhomnieaa
open Go.RowKit

/-- The reader's object: the bytes b, of which i have been read. -/
structure Sr (w : World) (sb : Nat) (a : Option Addr) (c : Nat) (b : List UInt8) (i : Nat) : Prop where
  p0 : w.cell? ⟨sb, 0, none⟩ = some (.slice a b.length c)
  p1 : w.cell? ⟨sb, 1, none⟩ = some (.int .i64 (i : Int))
  fz : w.frozen? ⟨sb, 1, none⟩ = false
  rd : RdL .u8 w a (zs b)
  le : i ≤ b.length
  off : 0 < b.length → ∀ x, a = some x → x.block ≠ sb
theorem Sr.lt {w : World} {sb : Nat} {a : Option Addr} {c : Nat} {b : List UInt8} {i : Nat} (h : Sr w sb a c b i) : sb < w.heap.size := World.block_lt_of_cell? w _ h.p0
theorem RdL.set {q : IntKind} {w : World} {a : Option Addr} {l : List Int} (h : RdL q w a l) {p : Addr} (hp : 0 < l.length → ∀ x, a = some x → x.block ≠ p.block) (u : Value) : RdL q (w.setCell p u) a l := by
  rcases h with h | ⟨b, off, rfl, hc⟩
  · exact .inl h
  · by_cases h0 : l.length = 0
    · exact .inl h0
    · refine .inr ⟨b, off, rfl, fun i hi => ?_⟩
      rw [World.cell?_setCell_other _ _ _ _ (by intro e; exact hp (by omega) _ rfl (by rw [e]))]
      exact hc i hi
theorem Sr.set {w : World} {sb : Nat} {a : Option Addr} {c : Nat} {b : List UInt8} {i : Nat} (h : Sr w sb a c b i) {j : Nat} (hj : j ≤ b.length) : Sr (w.setCell ⟨sb, 1, none⟩ (.int .i64 (j : Int))) sb a c b j :=
  ⟨by rw [World.cell?_setCell_other _ _ _ _ (by intro e; simp at e)]; exact h.p0, by rw [World.cell?_setCell_same _ _ _ h.p1], by simpa using h.fz, h.rd.set (fun h0 => h.off (by rwa [zs_len] at h0)) _, hj, h.off⟩
theorem Sr.drewN {w : World} {sb : Nat} {a : Option Addr} {c : Nat} {b : List UInt8} {i : Nat} (h : Sr w sb a c b i) (n : Nat) : Sr (w.drewN n) sb a c b i :=
  ⟨by simpa using h.p0, by simpa using h.p1, by simpa using h.fz, h.rd.below (below_drewN (Below.refl _ _) n), h.le, h.off⟩
theorem gr_refl (w : World) (r : Option Nat) : w.grownBy w r := ⟨rfl, rfl, rfl, Nat.le_refl _, fun _ _ _ => rfl⟩
theorem gr_drewN {w w' : World} {r : Option Nat} (h : w.grownBy w' r) (n : Nat) : w.grownBy (w'.drewN n) r := by
  have hb := below_drewN (Below.refl w'.heap.size w') n
  exact ⟨hb.os.trans h.os, hb.tape.trans h.tape, hb.output.trans h.output, Nat.le_trans h.size hb.size, fun i hi hne => (hb.block i (Nat.lt_of_lt_of_le hi h.size)).trans (h.block i hi hne)⟩
theorem gr_set {w w' : World} {sb : Nat} (h : w.grownBy w' (some sb)) (k : Nat) (u : Value) : w.grownBy (w'.setCell ⟨sb, k, none⟩ u) (some sb) :=
  ⟨h.os, h.tape, h.output, by simpa using h.size, fun i hi hne => (Below.heap_setCell w' _ u i (fun e => hne (by rw [e]))).trans (h.block i hi hne)⟩

theorem RdL.gr {q : IntKind} {w w' : World} {a : Option Addr} {l : List Int} {X : Nat} (h : RdL q w a l) (hg : w.grownBy w' (some X)) (hx : ∀ x, a = some x → x.block ≠ X) : RdL q w' a l := by
  rcases h with h | ⟨b, off, rfl, hc⟩
  · exact .inl h
  · refine .inr ⟨b, off, rfl, fun i hi => ?_⟩
    have hlt := World.block_lt_of_cell? w _ (hc i hi)
    rw [World.cell?_of_block (w := w) (w' := w') (a := ⟨b, off + i, none⟩) (hg.block b hlt fun e => hx _ rfl (by injection e))]
    exact hc i hi
theorem OwnL.gr {q : IntKind} {t : TypeId} {w w' : World} {B X : Nat} {v : Value} {l : List Int} (h : OwnL q t w B v l) (hg : w.grownBy w' (some X)) (hx : X < B) : OwnL q t w' B v l :=
  h.keep fun b hb => hg.block b (h.lt hb).2 fun e => by injection e with e; have := (h.lt hb).1; omega

theorem quietS {P : Program} {f : FuncId} {args : Array Value} {w : World} {n : Nat} {v : Value} (h : Calls P f args (w.drewN n) fun e w' => e = .returned v ∧ w' = w.drewN n) :
    Calls P f args (w.drewN n) fun e w'' => e = .returned v ∧ ∃ m, w'' = w.drewN m := h.mono fun _ _ ⟨he, hm⟩ => ⟨he, n, hm⟩

theorem numV_ne {b : List UInt8} {i : Nat} (h : (numV b i).2.2 ≠ 0) : ((numV b i).2.2 != 0) = true := by simpa using h

end Go.Proofs.Ytlcablkhomnieaa
