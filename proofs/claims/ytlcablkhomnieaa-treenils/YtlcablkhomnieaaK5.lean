/-
  Some texts of this seat, one behind the other.
-/
import Derived.ChangeOld
import Derived.Deep.Fields
import Derived.OpenShut
import Derived.ProofKit
import Derived.ShutString
import Derived.SizedLaws
import Derived.Test.YtlcablkhomnieaaK1
import Derived.Test.YtlcablkhomnieaaK3
import Derived.Test.YtlcablkhomnieaaRows
/-
  How a slice of whole numbers that came in is opened, as a list; what a string that came in says.
-/
namespace Go.Proofs.Ytlcablkhomnieaa
open Go.ChangeShapes Go.WideShapes Go.ChangeAt Go.RowKit

theorem ownKn : ownKnob Try.prog.godebug = none := by kernel_rfl
theorem laidOutT : laidOutB Try.prog = true := by kernel_rfl

/-- An int of 64 bits. -/
def Fits (x : Int) : Prop := -9223372036854775808 ≤ x ∧ x ≤ 9223372036854775807
theorem fits_of {x : Int} (h : (Lit.int .i64 x).wf = true) : Fits x := by
  have h1 : IntKind.i64.min = -9223372036854775808 := rfl
  have h2 : IntKind.i64.max = 9223372036854775807 := rfl
  simp only [Lit.wf, Bool.and_eq_true, decide_eq_true_eq] at h
  unfold Fits
  omega

/-- A slice that came in: it reads as l; its capacity lies within the form's reach (k bytes an element). -/
structure ArgL (q : IntKind) (k : Nat) (w : World) (a : Option Addr) (c : Nat) (l : List Int) : Prop where
  rd : RdL q w a l
  nil : a = none → l.length = 0 ∧ c = 0
  le : l.length ≤ c
  reach : c * k ≤ 140737488351232
  fits : ∀ i, i < l.length → (Lit.int q (l.getD i 0)).wf = true

theorem open_argL {H : Type} {enc : TypeId × Value → H} {W : World} {q : IntKind} {t st : TypeId} {k : Nat} {a : Option Addr} {len cap : Nat} {d : DataW H} {p : List MemPlace}
    (hu : Try.prog.underlying st = some (.slice t)) (he : Try.prog.underlying t = some (.int q)) (hc1 : Try.prog.cellsOf t = 1)
    (h : DataW.Trod enc Try.prog W 0 (fun _ => true) true st (.slice a len cap) d p) (hs : ∀ es sp, d = .slice es sp → (es.length + sp.length) * k ≤ reachBytes) : ∃ l : List Int, l.length = len ∧ ArgL q k W a cap l := by
  obtain ⟨fuel, hf⟩ := h
  rcases open_ints hu he hc1 hf with ⟨hcs, _⟩ | ⟨x, l, c, zs, hcs, _, hl, hm, hz, hx, hcell, hwz⟩
  · simp [Value.cells] at hcs
    obtain ⟨rfl, rfl, rfl⟩ := hcs
    exact ⟨[], rfl, .inl rfl, fun _ => ⟨rfl, rfl⟩, Nat.le_refl _, by omega, fun i hi => by simp at hi⟩
  · simp [Value.cells] at hcs
    obtain ⟨rfl, rfl, rfl⟩ := hcs
    simp only [if_true] at hz
    have hr := hs _ _ (congrArg Prod.fst hx)
    simp only [lits, List.length_map, List.length_take, List.length_drop, reachBytes] at hr
    have e1 : min len zs.length + (zs.length - len) = cap := by omega
    rw [e1] at hr
    have hlen : (zs.take len).length = len := by rw [List.length_take]; omega
    have hget : ∀ i, i < len → (zs.take len).getD i 0 = zs.getD i 0 := fun i hi => by
      simp only [List.getD, List.getElem?_take_of_lt hi]
    refine ⟨zs.take len, hlen, ?_, (fun h => by cases h), by omega, by omega, fun i hi => ?_⟩
    · by_cases h0 : len = 0
      · exact .inl (by omega)
      · obtain ⟨b, off, spot⟩ := x
        have hc := hcell 0 (by omega)
        have hspot : spot = none := by simpa [Addr.add] using World.cell?_spot hc
        subst hspot
        exact .inr ⟨b, off, rfl, fun i hi => by rw [hget i (by omega), ← add_at]; exact hcell i (by omega)⟩
    · rw [hget i (by omega)]
      refine hwz _ ?_
      simp only [List.getD, List.getElem?_eq_getElem (show i < zs.length by omega), Option.getD_some]
      exact List.getElem_mem _

end Go.Proofs.Ytlcablkhomnieaa

/-
  How a machine that came in (a struct of four ints and two slices of ints) is opened.
-/
namespace Go.Proofs.Ytlcablkhomnieaa
open Go.ChangeShapes Go.WideShapes Go.ChangeAt Go.RowKit Go.Deep

/-- A machine that came in: its lists read as they say, their capacities within the form's reach. -/
structure ArgM (w : World) (m : Mc) (a1 : Option Addr) (c1 : Nat) (a2 : Option Addr) (c2 : Nat) : Prop where
  nx : ArgL .i64 8 w a1 c1 m.nx
  out : ArgL .i64 8 w a2 c2 m.out
  kind : Fits m.kind
  k : Fits m.k
  o : Fits m.o
  n : Fits m.n

theorem array6 {α : Type} {cs : Array α} (h : cs.size = 6) : ∃ c0 c1 c2 c3 c4 c5, cs = #[c0, c1, c2, c3, c4, c5] := by
  obtain ⟨l⟩ := cs
  match l, h with
  | [c0, c1, c2, c3, c4, c5], _ => exact ⟨c0, c1, c2, c3, c4, c5, rfl⟩
theorem list6 {α : Type} {l : List α} (h : l.length = 6) : ∃ c0 c1 c2 c3 c4 c5, l = [c0, c1, c2, c3, c4, c5] := by
  match l, h with
  | [c0, c1, c2, c3, c4, c5], _ => exact ⟨c0, c1, c2, c3, c4, c5, rfl⟩

theorem open_six {H : Type} {enc : TypeId × Value → H} {P : Program} {w : World} {r : Reach} {base b0 : Nat} {spare : Nat → Bool} {held : Bool} {t : TypeId} {fs : Array Field} {v : Value} {d : DataW H} {p : List MemPlace}
    (hs : P.underlying t = some (.struct fs)) (hone : oneCellFields P fs = true) (hC : P.cellsOf t = 6) (hn : fs.size = 6) (hv : Value.okWide P w r b0 t v) (h : DataW.Trod enc P w base spare held t v d p) :
    ∃ (v0 v1 v2 v3 v4 v5 : Value) (y0 y1 y2 y3 y4 y5 : DataW H × List MemPlace) (n : Nat), v = .agg #[v0, v1, v2, v3, v4, v5] ∧ d = .agg [y0.1, y1.1, y2.1, y3.1, y4.1, y5.1] ∧
      ∀ (i : Nat) (f : Field), fs[i]? = some f → ∃ u y, [v0, v1, v2, v3, v4, v5][i]? = some u ∧ [y0, y1, y2, y3, y4, y5][i]? = some y ∧ DataW.trod enc P w base spare held n f.type [u] = some y := by
  obtain ⟨cs, rfl, hsz⟩ := okWide_struct hs hv
  obtain ⟨v0, v1, v2, v3, v4, v5, rfl⟩ := array6 (hsz.trans hC)
  obtain ⟨fuel, hf⟩ := h
  obtain ⟨xs, n, _, hx, _, hlen, hall⟩ := DataW.trod_struct hs hf
  obtain ⟨y0, y1, y2, y3, y4, y5, rfl⟩ := list6 (hlen.trans hn)
  refine ⟨v0, v1, v2, v3, v4, v5, y0, y1, y2, y3, y4, y5, n, rfl, by simpa using congrArg Prod.fst hx, fun i f hi => ?_⟩
  have hlt : i < 6 := by rw [← hn]; exact (Array.getElem?_eq_some_iff.1 hi).1
  obtain ⟨ho, hc⟩ := hone_of hone i f hi
  have h1 := hall i f hi
  rw [ho, hc] at h1
  rcases (show i = 0 ∨ i = 1 ∨ i = 2 ∨ i = 3 ∨ i = 4 ∨ i = 5 by omega) with rfl | rfl | rfl | rfl | rfl | rfl <;> exact ⟨_, _, rfl, rfl, h1⟩

set_option maxRecDepth 100000 in
theorem open_machine {H : Type} {enc : TypeId × Value → H} {W : World} {r : Reach} {b0 : Nat} {v : Value} {d : DataW H} {p : List MemPlace} (hv : Value.okWide Try.prog W r b0 31 v)
    (h : DataW.Trod enc Try.prog W 0 (fun _ => true) true 31 v d p) (hsz : ∀ n ∈ d.weights Try.prog 31, n ≤ reachBytes) : ∃ m a1 c1 a2 c2, v = mval m a1 c1 a2 c2 ∧ ArgM W m a1 c1 a2 c2 := by
  obtain ⟨v0, v1, v2, v3, v4, v5, y0, y1, y2, y3, y4, y5, n, rfl, rfl, hall⟩ := open_six Try.underlying31 (by kernel_rfl) (by kernel_rfl) rfl hv h
  obtain ⟨u0, z0, e0, f0, t0⟩ := hall 0 _ rfl
  obtain ⟨u1, z1, e1, f1, t1⟩ := hall 1 _ rfl
  obtain ⟨u2, z2, e2, f2, t2⟩ := hall 2 _ rfl
  obtain ⟨u3, z3, e3, f3, t3⟩ := hall 3 _ rfl
  obtain ⟨u4, z4, e4, f4, t4⟩ := hall 4 _ rfl
  obtain ⟨u5, z5, e5, f5, t5⟩ := hall 5 _ rfl
  clear hall
  cases e0; cases e1; cases e2; cases e3; cases e4; cases e5
  cases f0; cases f1; cases f2; cases f3; cases f4; cases f5
  obtain ⟨x0, e0, rfl, w0⟩ := DataW.trod_int Try.underlying3 t0
  obtain ⟨x1, e1, rfl, w1⟩ := DataW.trod_int Try.underlying3 t1
  obtain ⟨x2, e2, rfl, w2⟩ := DataW.trod_int Try.underlying3 t2
  obtain ⟨x3, e3, rfl, w3⟩ := DataW.trod_int Try.underlying3 t3
  cases e0; cases e1; cases e2; cases e3
  have hw : ∀ (j : Nat) (y : DataW H × List MemPlace) (es sp : List (DataW H)), [(.lit (.int .i64 x0), []), (.lit (.int .i64 x1), []), (.lit (.int .i64 x2), []), (.lit (.int .i64 x3), []), y4, y5][j]? = some y → (j = 4 ∨ j = 5) → y.1 = .slice es sp → (es.length + sp.length) * 8 ≤ reachBytes := by
    intro j y es sp hj h45 hy
    refine hsz _ ?_
    rw [DataW.weights, Try.underlying31]
    refine DataW.weights_mem_each (j := j) (t := 29) (d := y.1) ?_ ?_ _ ?_
    · rcases h45 with rfl | rfl <;> rfl
    · rcases h45 with rfl | rfl <;> (cases hj; rfl)
    · rw [hy, DataW.weights, Try.underlying29]
      exact List.mem_cons.2 (.inl (by rw [show Try.prog.bytesOf 3 = 8 by kernel_rfl]))
  obtain ⟨a1, l1, c1, e4⟩ : ∃ a l c, [v4] = [.slice a l c] := by
    rcases open_slice Try.underlying29 t4 with ⟨hcs, _⟩ | ⟨a', len', cap', m, n, D, Pl, hcs, _⟩ <;> exact ⟨_, _, _, hcs⟩
  obtain ⟨a2, l2, c2, e5⟩ : ∃ a l c, [v5] = [.slice a l c] := by
    rcases open_slice Try.underlying29 t5 with ⟨hcs, _⟩ | ⟨a', len', cap', m, n, D, Pl, hcs, _⟩ <;> exact ⟨_, _, _, hcs⟩
  cases e4; cases e5
  obtain ⟨l1, rfl, A1⟩ := open_argL (q := .i64) (k := 8) (d := y4.1) (p := y4.2) Try.underlying29 Try.underlying3 (by kernel_rfl) ⟨n, t4⟩ fun es sp hd => hw 4 y4 es sp rfl (.inl rfl) hd
  obtain ⟨l2, rfl, A2⟩ := open_argL (q := .i64) (k := 8) (d := y5.1) (p := y5.2) Try.underlying29 Try.underlying3 (by kernel_rfl) ⟨n, t5⟩ fun es sp hd => hw 5 y5 es sp rfl (.inr rfl) hd
  exact ⟨⟨x0, x1, x2, x3, l1, l2⟩, a1, c1, a2, c2, rfl, A1, A2, fits_of w0, fits_of w1, fits_of w2, fits_of w3⟩

end Go.Proofs.Ytlcablkhomnieaa
