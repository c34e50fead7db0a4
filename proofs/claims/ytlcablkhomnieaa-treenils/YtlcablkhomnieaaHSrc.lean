/-
  The program's reader of answers: the numbers of a line, its end.
-/
import Derived.Test.YtlcablkhomnieaaTSr
import Derived.Test.YtlcablkhomnieaaUTch
import Derived.Test.YtlcablkhomnieaaK1
import Derived.BigQuiet
namespace Go.Proofs.Ytlcablkhomnieaa
open Go.RowKit

/-- Where a reader stands. -/
def atW (w : World) (sb : Nat) : Nat := match w.cell? ⟨sb, 1, none⟩ with
  | some (.int _ x) => x.toNat
  | _ => 0
theorem Sr.atW {w : World} {sb : Nat} {a : Option Addr} {c : Nat} {b : List UInt8} {i : Nat} (h : Sr w sb a c b i) : atW w sb = i := by
  unfold Go.Proofs.Ytlcablkhomnieaa.atW
  rw [h.p1]
  simp
/-- A reader's object while other memory grows. -/
theorem Sr.below {w w' : World} {sb : Nat} {a : Option Addr} {c : Nat} {b : List UInt8} {i : Nat} (h : Sr w sb a c b i) (hb : Below w.heap.size w w') : Sr w' sb a c b i := by
  have hlt := h.lt
  have ec : ∀ j, w'.cell? ⟨sb, j, none⟩ = w.cell? ⟨sb, j, none⟩ := fun j => hb.cell hlt
  refine ⟨(ec _).trans h.p0, (ec _).trans h.p1, ?_, h.rd.below hb, h.le, h.off⟩
  have := hb.block sb hlt
  have hf := h.fz
  unfold World.frozen? at hf ⊢
  rw [this]; exact hf
theorem RdL.blk {q : IntKind} {w : World} {a : Option Addr} {l : List Int} (h : RdL q w a l) (hl : 0 < l.length) : ∀ x, a = some x → x.block < w.heap.size := fun x hx => by
  rcases h with h | ⟨b, off, e, hc⟩
  · omega
  · have := World.block_lt_of_cell? w _ (hc 0 hl)
    rw [e] at hx; cases hx; exact this
theorem RdL.belowB {q : IntKind} {w w' : World} {a : Option Addr} {l : List Int} {B : Nat} (h : RdL q w a l) (hb : Below B w w') (hB : 0 < l.length → ∀ x, a = some x → x.block < B) : RdL q w' a l := by
  rcases h with h | ⟨b, off, rfl, hc⟩
  · exact .inl h
  · refine .inr ⟨b, off, rfl, fun i hi => ?_⟩
    exact (hb.cell (p := ⟨b, off + i, none⟩) (hB (by omega) ⟨b, off, none⟩ rfl)).trans (hc i hi)
theorem Sr.belowB {w w' : World} {sb : Nat} {a : Option Addr} {c : Nat} {b : List UInt8} {i B : Nat} (h : Sr w sb a c b i) (hb : Below B w w') (hs : sb < B) (hB : 0 < b.length → ∀ x, a = some x → x.block < B) : Sr w' sb a c b i := by
  have ec : ∀ j, w'.cell? ⟨sb, j, none⟩ = w.cell? ⟨sb, j, none⟩ := fun j => hb.cell hs
  refine ⟨(ec _).trans h.p0, (ec _).trans h.p1, ?_, h.rd.belowB hb (by rw [zs_len]; exact hB), h.le, h.off⟩
  have := hb.block sb hs
  have hf := h.fz
  unfold World.frozen? at hf ⊢
  rw [this]; exact hf
theorem Sr.blk {w : World} {sb : Nat} {a : Option Addr} {c : Nat} {b : List UInt8} {i : Nat} (h : Sr w sb a c b i) : 0 < b.length → ∀ x, a = some x → x.block < w.heap.size := fun h0 => h.rd.blk (by rw [zs_len]; exact h0)
theorem gr_below {w w1 w2 : World} {r : Option Nat} (h : w.grownBy w1 r) (hb : Below w1.heap.size w1 w2) : w.grownBy w2 r :=
  ⟨hb.os.trans h.os, hb.tape.trans h.tape, hb.output.trans h.output, Nat.le_trans h.size hb.size, fun i hi hne => (hb.block i (Nat.lt_of_lt_of_le hi h.size)).trans (h.block i hi hne)⟩
theorem gr_belowB {w w1 w2 : World} {r : Option Nat} {B : Nat} (h : w.grownBy w1 r) (hb : Below B w1 w2) (hB : w.heap.size ≤ B) : w.grownBy w2 r :=
  ⟨hb.os.trans h.os, hb.tape.trans h.tape, hb.output.trans h.output, Nat.le_trans h.size hb.size, fun i hi hne => (hb.block i (Nat.lt_of_lt_of_le hi hB)).trans (h.block i hi hne)⟩
theorem gr_trans {w w1 w2 : World} {r : Option Nat} (h : w.grownBy w1 r) (h' : w1.grownBy w2 r) : w.grownBy w2 r :=
  ⟨h'.os.trans h.os, h'.tape.trans h.tape, h'.output.trans h.output, Nat.le_trans h.size h'.size, fun i hi hne => (h'.block i (Nat.lt_of_lt_of_le hi h.size) hne).trans (h.block i hi hne)⟩
theorem below_gr {w w1 w2 : World} {B X : Nat} (h : Below B w w1) (h' : w1.grownBy w2 (some X)) (hX : B ≤ X) (hs : B ≤ w1.heap.size) : Below B w w2 :=
  ⟨h'.os.trans h.os, h'.tape.trans h.tape, h'.output.trans h.output, Nat.le_trans h.size h'.size, fun i hi => (h'.block i (Nat.lt_of_lt_of_le hi hs) (fun e => by injection e with e; omega)).trans (h.block i hi)⟩

theorem quietT {P : Program} {f : FuncId} {args : Array Value} {w : World} {k n : Nat} {v : Value} (h : Calls P f args (w.drewN (k + n)) fun e w' => e = .returned v ∧ w' = w.drewN (k + n)) :
    Calls P f args (w.drewN (k + n)) fun e w'' => e = .returned v ∧ ∃ m, w'' = w.drewN (k + m) := h.mono fun _ _ ⟨he, hm⟩ => ⟨he, n, hm⟩
/-- What a reader's step leaves: a list of its own, an error, where it stands. -/
def NmPost (w : World) (sb : Nat) (a : Option Addr) (c : Nat) (b : List UInt8) (r : List Int × Nat × Int) (e : Ending) (w' : World) : Prop :=
  ∃ v, e = .returned (.tuple #[v, .int .i64 r.2.2]) ∧ OwnL .i64 3 w' w.heap.size v r.1 ∧ Sr w' sb a c b r.2.1 ∧ w.grownBy w' (some sb)

end Go.Proofs.Ytlcablkhomnieaa
