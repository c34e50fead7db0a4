/-
  Slices of lists of the call's own: appended to.
-/
import Derived.Test.YtemalidanjfmkaaCDz
import Derived.Test.YtemalidanjfmkaaEOwn
import Derived.Laws.AppendOwnNone
namespace Go.Proofs.Ytemalidanjfmkaa
set_option linter.unusedVariables false
open Go.RowKit

theorem LaOk.gr {w w' : World} {x : La} {row : Option Nat} (h : LaOk w x) (hg : w.grownBy w' row) (hx : ∀ y, x.a = some y → row ≠ some y.block) : LaOk w' x :=
  ⟨rdG h.rd hg hx, h.nil, h.le, h.cap⟩
/-- A slice of lists of the call's own. -/
structure OwnT (w : World) (B : Nat) (v : Value) (xs : List La) : Prop where
  top : w.ownsRow B 29 1 v xs.length (xs.map laV)
  row : ∀ x ∈ xs, LaOk w x
  apart : ∀ x ∈ xs, ∀ y, x.a = some y → v.ownBlock ≠ some y.block ∧ y.block < w.heap.size
theorem OwnT.nil (w : World) (B : Nat) : OwnT w B (.slice none 0 0) [] := ⟨World.ownsRow_nil _ _ _ _, fun _ h => (by cases h), fun _ h => (by cases h)⟩
theorem OwnT.lit (w : World) (B : Nat) (hB : B ≤ w.heap.size) : OwnT (w.alloc (.cells #[] 29)) B (.slice (some ⟨w.heap.size, 0, none⟩) 0 0) [] :=
  ⟨World.ownsRow_lit w #[] 0 hB (by unfold maxLen; simp) rfl, fun _ h => (by cases h), fun _ h => (by cases h)⟩
theorem OwnT.grown {w w' : World} {B : Nat} {v : Value} {xs : List La} (h : OwnT w B v xs) (hb : Below w.heap.size w w') : OwnT w' B v xs := by
  refine ⟨World.ownsRow.kept (row := none) h.top ⟨hb.os, hb.tape, hb.output, hb.size, fun i hi _ => hb.block i hi⟩ ?_, fun x hx => (h.row x hx).below hb, fun x hx y hy => ⟨(h.apart x hx y hy).1, Nat.lt_of_lt_of_le (h.apart x hx y hy).2 hb.size⟩⟩
  cases v.ownBlock <;> simp
theorem OwnT.rd {w : World} {B : Nat} {v : Value} {xs : List La} (h : OwnT w B v xs) : ∃ a c, v = .slice a xs.length c ∧ RdLs w a xs ∧ (a = none → xs = [] ∧ c = 0) := by
  rcases h.top.2 with ⟨rfl, h0⟩ | ⟨g, cap, cur, rfl, hb, hg, hn, hm, hs, ht⟩
  · have : xs = [] := List.eq_nil_of_length_eq_zero h0
    subst this
    exact ⟨none, 0, rfl, RdLs.nil _ _, fun _ => ⟨rfl, rfl⟩⟩
  · refine ⟨_, _, rfl, ⟨.inr ⟨g, 0, rfl, fun i hi => ?_⟩, h.row⟩, fun e => (by cases e)⟩
    have e : (xs.map laV)[i]? = some (laV xs[i]) := by simp [hi]
    have := h.top.cells (g := g) rfl _ _ e
    rw [add_at] at this
    exact this
def okS (x : Option TypeInfo) : Bool := match x with
  | some i => (match i.zero with
    | some z => decide (i.size = 1 ∧ z.cells.size = 1 ∧ i.bytes ≤ 1000)
    | none => false)
  | none => false
theorem okS_of {x : Option TypeInfo} (h : okS x = true) : ∃ i z, x = some i ∧ i.zero = some z ∧ i.size = 1 ∧ z.cells.size = 1 ∧ i.bytes ≤ 1000 := by
  unfold okS at h
  split at h
  · split at h
    · exact ⟨_, _, rfl, by assumption, of_decide_eq_true h⟩
    · cases h
  · cases h
theorem info_S : ∃ i z, Try.prog.info? 29 = some i ∧ i.zero = some z ∧ i.size = 1 ∧ z.cells.size = 1 ∧ i.bytes ≤ 1000 := okS_of (by kernel_rfl)
theorem OwnT.app {w : World} (ty : TypeId) {B : Nat} {v : Value} {xs : List La} (h : OwnT w B v xs) (ad : Addr) (c : Nat) (ys : List La) (hr : RdLs w (some ad) ys) (ha : ∀ x ∈ ys, ∀ y, x.a = some y → v.ownBlock ≠ some y.block ∧ y.block < w.heap.size) (hl : xs.length + ys.length ≤ 1000000000) (hB : B ≤ w.heap.size) :
    ∃ v' w', (Builtin.append_ #[32, 32] ty #[v, .slice (some ad) ys.length c]).run Try.prog w = .ok v' w' ∧ OwnT w' B v' (xs ++ ys) ∧ Below B w w' := by
  obtain ⟨i, z, hi, hz, hs, hzs, hby⟩ := info_S
  have hlt := World.ownsRow.lt h.top
  obtain ⟨v', w', hrun, r1, r2, _, r4⟩ := run_append_own_at (P := Try.prog) w B 32 ty 29 i z 1 i.bytes Try.underlying32 hi hz hs rfl hzs (by decide) v xs.length (xs.map laV) h.top ad ys.length c (ys.map laV) (by simp) (fun j u hj => by
      have hjm : j < ys.length := by have := (List.getElem?_eq_some_iff.1 hj).1; rwa [List.length_map] at this
      rcases hr.top with h0 | ⟨b, off, e, hc⟩
      · rw [h0] at hjm; simp at hjm
      · cases e
        rw [add_at, hc j hjm, ← hj]
        simp [hjm]) (fun u hu => by
      obtain ⟨x, -, rfl⟩ := List.mem_map.1 hu
      rfl) (by unfold maxLen; omega) (by
      have : (xs.length + ys.length) * i.bytes ≤ 1000000000 * 1000 := Nat.mul_le_mul hl hby
      omega) hB
  have hbl : Below B w w' := (Below.refl B w).grown r2 hB fun k hk => (hlt k hk).1
  have hnew : ∀ q ∈ xs ++ ys, LaOk w q ∧ ∀ y, q.a = some y → v.ownBlock ≠ some y.block ∧ y.block < w.heap.size := fun q hq => by
    rcases List.mem_append.1 hq with hq | hq
    · exact ⟨h.row q hq, h.apart q hq⟩
    · exact ⟨hr.row q hq, ha q hq⟩
  refine ⟨v', w', hrun, ⟨by rw [List.length_append, List.map_append]; exact r1, fun q hq => ?_, fun q hq y hy => ?_⟩, hbl⟩
  · obtain ⟨h1, h2⟩ := hnew q hq
    exact h1.gr r2 fun y e => (h2 y e).1
  · obtain ⟨h1, h2⟩ := hnew q hq
    obtain ⟨h3, h4⟩ := h2 y hy
    refine ⟨fun e => ?_, Nat.lt_of_lt_of_le h4 r2.size⟩
    rcases r4 with r4 | r4
    · exact h3 (r4 ▸ e)
    · rw [r4] at e; have := Option.some.inj e; omega
/-- append(xs, ys...), whatever ys is. -/
theorem wpl_pushT {w : World} {ops : Array Oper} {rest : List Oper} {o : Oper} {a : Act} {Q : Exit → Act → World → Prop} (hgd : o.guard = none) (s y : Operand) (ho : o.op = .call { callee := .builtin .append, args := #[s, y], argTypes := #[32, 32] })
    (B : Nat) (v : Value) (xs : List La) (hs : a.eval s = v) (h : OwnT w B v xs) (ao : Option Addr) (c : Nat) (ys : List La) (hx : a.eval y = .slice ao ys.length c) (hr : RdLs w ao ys) (hnil : ao = none → ys = [] ∧ c = 0) (ha : ∀ x ∈ ys, ∀ y, x.a = some y → v.ownBlock ≠ some y.block ∧ y.block < w.heap.size) (hl : xs.length + ys.length ≤ 1000000000) (hB : B ≤ w.heap.size)
    (h' : ∀ v' w', OwnT w' B v' (xs ++ ys) → Below B w w' → wpList Try.prog ops Q rest (a.put o.dst v') w') :
    wpList Try.prog ops Q (o :: rest) a w := by
  cases ao with
  | none =>
    obtain ⟨rfl, rfl⟩ := hnil rfl
    obtain ⟨i, z, hi, hz, hsz, hzs, hby⟩ := info_S
    refine wpList_append_own_none hgd s y 32 ho B 29 i 1 Try.underlying32 hi v xs.length (xs.map laV) hs h.top hx ?_
    refine h' v w ?_ (Below.refl _ _)
    rw [List.append_nil]; exact h
  | some ad =>
    refine wpList_plain hgd fun K hK => ?_
    obtain ⟨v', w', hrun, r1, r2⟩ := h.app o.type ad c ys hr ha hl hB
    unfold Oper.wp
    simp [execOp, ho, resolve, invoke, builtin, hs, hx, hrun, Result.andThen]
    exact hK _ _ (h' v' w' r1 r2)

end Go.Proofs.Ytemalidanjfmkaa
