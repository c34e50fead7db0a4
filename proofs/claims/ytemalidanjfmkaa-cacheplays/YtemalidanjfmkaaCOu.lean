/-
  Slices of lists of the call's own, the lists wherever they lie; append to a slice that has no room.
-/
import Derived.Test.YtemalidanjfmkaaCOw
namespace Go.Proofs.Ytemalidanjfmkaa
set_option linter.unusedVariables false
open Go.RowKit

theorem LaOk.grE {w w' : World} {x : La} {row : Option Nat} (h : LaOk w x) (hg : w.grownBy w' row) (hx : x.l.length ≠ 0 → ∀ y, x.a = some y → row ≠ some y.block) : LaOk w' x := by
  refine ⟨?_, h.nil, h.le, h.cap⟩
  by_cases c : x.l.length = 0
  · exact .inl c
  · exact rdG h.rd hg (hx c)
theorem LaOk.lt {w : World} {x : La} (h : LaOk w x) (hn : x.l.length ≠ 0) : ∀ y, x.a = some y → y.block < w.heap.size := fun y hy => by
  obtain ⟨b', off', e', hc'⟩ := h.rd.at (i := 0) (by omega)
  cases hy.symm.trans e'
  exact World.block_lt_of_cell? w _ (hc' 0 (by omega))
structure OwnU (w : World) (B : Nat) (v : Value) (xs : List La) : Prop where
  top : w.ownsRow B 29 1 v xs.length (xs.map laV)
  row : ∀ x ∈ xs, LaOk w x
  apart : ∀ x ∈ xs, x.l.length ≠ 0 → ∀ y, x.a = some y → v.ownBlock ≠ some y.block
theorem OwnU.nil (w : World) (B : Nat) : OwnU w B (.slice none 0 0) [] := ⟨World.ownsRow_nil _ _ _ _, fun _ h => (by cases h), fun _ h => (by cases h)⟩
theorem OwnU.grown {w w' : World} {B : Nat} {v : Value} {xs : List La} (h : OwnU w B v xs) (hb : Below w.heap.size w w') : OwnU w' B v xs := by
  refine ⟨World.ownsRow.kept (row := none) h.top ⟨hb.os, hb.tape, hb.output, hb.size, fun i hi _ => hb.block i hi⟩ ?_, fun x hx => (h.row x hx).below hb, h.apart⟩
  cases v.ownBlock <;> simp
theorem OwnU.rd {w : World} {B : Nat} {v : Value} {xs : List La} (h : OwnU w B v xs) : ∃ a c, v = .slice a xs.length c ∧ RdLs w a xs ∧ (a = none → xs = [] ∧ c = 0) := by
  rcases h.top.2 with ⟨rfl, h0⟩ | ⟨g, cap, cur, rfl, hb, hg, hn, hm, hs, ht⟩
  · have : xs = [] := List.eq_nil_of_length_eq_zero h0
    subst this
    exact ⟨none, 0, rfl, RdLs.nil _ _, fun _ => ⟨rfl, rfl⟩⟩
  · refine ⟨_, _, rfl, ⟨.inr ⟨g, 0, rfl, fun i hi => ?_⟩, h.row⟩, fun e => (by cases e)⟩
    have e : (xs.map laV)[i]? = some (laV xs[i]) := by simp [hi]
    have := h.top.cells (g := g) rfl _ _ e
    rw [add_at] at this
    exact this
theorem OwnU.app {w : World} (ty : TypeId) {B : Nat} {v : Value} {xs : List La} (h : OwnU w B v xs) (ad : Addr) (c : Nat) (ys : List La) (hr : RdLs w (some ad) ys) (ha : ∀ x ∈ ys, x.l.length ≠ 0 → ∀ y, x.a = some y → v.ownBlock ≠ some y.block) (hl : xs.length + ys.length ≤ 1000000000) (hB : B ≤ w.heap.size) :
    ∃ v' w', (Builtin.append_ #[32, 32] ty #[v, .slice (some ad) ys.length c]).run Try.prog w = .ok v' w' ∧ OwnU w' B v' (xs ++ ys) ∧ Below B w w' ∧ w.grownBy w' v.ownBlock := by
  obtain ⟨i, z, hi, hz, hs, hzs, hby⟩ := info_S
  have hlt := World.ownsRow.lt h.top
  obtain ⟨v', w', hrun, r1, r2, _, r4⟩ := run_append_own_at (P := Try.prog) w B 32 ty 29 i z 1 i.bytes Try.underlying32 hi hz hs rfl hzs (by decide) v xs.length (xs.map laV) h.top ad ys.length c (ys.map laV) (by simp) (fun j u hj => by
      have hjm : j < ys.length := by have := (List.getElem?_eq_some_iff.1 hj).1; rwa [List.length_map] at this
      rcases hr.top with h0 | ⟨b, off, e, hc⟩
      · rw [h0] at hjm; simp at hjm
      · cases e
        rw [add_at, hc j hjm, ← hj]
        simp [hjm]) (fun u hu => by
      obtain ⟨x, -, rfl⟩ := List.mem_map.1 hu
      rfl) (by unfold maxLen; omega) (by
      have : (xs.length + ys.length) * i.bytes ≤ 1000000000 * 1000 := Nat.mul_le_mul hl hby
      omega) hB
  have hbl : Below B w w' := (Below.refl B w).grown r2 hB fun k hk => (hlt k hk).1
  have hnew : ∀ q ∈ xs ++ ys, LaOk w q ∧ (q.l.length ≠ 0 → ∀ y, q.a = some y → v.ownBlock ≠ some y.block) := fun q hq => by
    rcases List.mem_append.1 hq with hq | hq
    · exact ⟨h.row q hq, h.apart q hq⟩
    · exact ⟨hr.row q hq, ha q hq⟩
  refine ⟨v', w', hrun, ⟨by rw [List.length_append, List.map_append]; exact r1, fun q hq => ?_, fun q hq hn y hy e => ?_⟩, hbl, r2⟩
  · obtain ⟨h1, h2⟩ := hnew q hq
    exact h1.grE r2 h2
  · obtain ⟨h1, h2⟩ := hnew q hq
    rcases r4 with r4 | r4
    · exact h2 hn y hy (r4 ▸ e)
    · rw [r4] at e; have := Option.some.inj e; have := h1.lt hn y hy; omega
/-- append(xs, ys...), whatever ys is. -/
theorem wpl_pushU {w : World} {ops : Array Oper} {rest : List Oper} {o : Oper} {a : Act} {Q : Exit → Act → World → Prop} (hgd : o.guard = none) (s y : Operand) (ho : o.op = .call { callee := .builtin .append, args := #[s, y], argTypes := #[32, 32] })
    (B : Nat) (v : Value) (xs : List La) (hs : a.eval s = v) (h : OwnU w B v xs) (ao : Option Addr) (c : Nat) (ys : List La) (hx : a.eval y = .slice ao ys.length c) (hr : RdLs w ao ys) (hnil : ao = none → ys = [] ∧ c = 0) (ha : ∀ x ∈ ys, x.l.length ≠ 0 → ∀ y, x.a = some y → v.ownBlock ≠ some y.block) (hl : xs.length + ys.length ≤ 1000000000) (hB : B ≤ w.heap.size)
    (h' : ∀ v' w', OwnU w' B v' (xs ++ ys) → Below B w w' → w.grownBy w' v.ownBlock → wpList Try.prog ops Q rest (a.put o.dst v') w') :
    wpList Try.prog ops Q (o :: rest) a w := by
  cases ao with
  | none =>
    obtain ⟨rfl, rfl⟩ := hnil rfl
    obtain ⟨i, z, hi, hz, hsz, hzs, hby⟩ := info_S
    refine wpList_append_own_none hgd s y 32 ho B 29 i 1 Try.underlying32 hi v xs.length (xs.map laV) hs h.top hx ?_
    refine h' v w ?_ (Below.refl _ _) ⟨rfl, rfl, rfl, Nat.le_refl _, fun _ _ _ => rfl⟩
    rw [List.append_nil]; exact h
  | some ad =>
    refine wpList_plain hgd fun K hK => ?_
    obtain ⟨v', w', hrun, r1, r2, r3⟩ := h.app o.type ad c ys hr ha hl hB
    unfold Oper.wp
    simp [execOp, ho, resolve, invoke, builtin, hs, hx, hrun, Result.andThen]
    exact hK _ _ (h' v' w' r1 r2 r3)
/-- append to an empty literal: what was there stays. -/
theorem run_app0 {w : World} (t ty e : TypeId) (i : TypeInfo) (z : Value) (ht : Try.prog.underlying t = some (.slice e)) (hi : Try.prog.info? e = some i) (hz : i.zero = some z) (hs : i.size = 1) (hzs : z.cells.size = 1) (hby : i.bytes ≤ 1000) (g : Nat) (hg : w.heap[g]? = some (.cells #[] e (0, 0)))
    (B : Nat) (hB : B ≤ g) (ad : Addr) (m c : Nat) (news : List Value) (hl : news.length = m) (hnews : ∀ j u, news[j]? = some u → w.cell? (ad.add j) = some u) (h1 : ∀ u ∈ news, u.oneCell' = true) (hm : m ≤ 1000000000) :
    ∃ v' w', (Builtin.append_ #[t, t] ty #[.slice (some ⟨g, 0, none⟩) 0 0, .slice (some ad) m c]).run Try.prog w = .ok v' w' ∧ w'.ownsRow B e 1 v' m news ∧ Below w.heap.size w w' := by
  have hgl : g < w.heap.size := (Array.getElem?_eq_some_iff.1 hg).1
  have hown : w.ownsRow B e 1 (.slice (some ⟨g, 0, none⟩) 0 0) 0 [] := ⟨rfl, .inr ⟨g, 0, #[], rfl, hB, hg, Nat.le_refl _, Nat.zero_le _, rfl, rfl⟩⟩
  have hb3 : (0 + m) * i.bytes ≤ 140737488355328 := by
    have : (0 + m) * i.bytes ≤ 1000000000 * 1000 := Nat.mul_le_mul (by omega) hby
    omega
  obtain ⟨v', w', hrun, r1, r2, _, r4⟩ := run_append_own_at (P := Try.prog) w B t ty e i z 1 i.bytes ht hi hz hs rfl hzs (by decide) (.slice (some ⟨g, 0, none⟩) 0 0) 0 [] hown ad m c news (by omega) hnews h1 (by unfold maxLen; omega) hb3 (by omega)
  rw [Nat.zero_add, List.nil_append] at r1
  refine ⟨v', w', hrun, r1, ?_⟩
  by_cases h0 : m = 0
  · have hn : news = [] := List.eq_nil_of_length_eq_zero (by omega)
    subst hn
    subst h0
    have hr2 := run_append_room (P := Try.prog) w t ty e i ht hi g 0 0 #[] hg ad 0 c [] (by simp) (fun j u hj => by simp at hj) (fun u hu => by simp at hu) (Nat.le_refl _) (by simp)
    have hq := hrun.symm.trans hr2
    injection hq with e1 e2
    subst e2
    refine ⟨r2.os, r2.tape, r2.output, r2.size, fun k hk => ?_⟩
    by_cases c : k = g
    · subst c
      have := setRow_heap w k #[] (#[] : Array Value) e (0, 0) hg
      rw [hg]
      simpa using this
    · exact r2.block k hk (fun q => c (by simpa [Value.ownBlock] using q))
  · have hr2 := run_append_grow (P := Try.prog) w t ty e i z ht hi hz ⟨g, 0, none⟩ 0 0 [] (by simp) (fun j u hj => by simp at hj) ad m c news (by rw [hs, Nat.mul_one]; exact hl) hnews (by omega) (by omega) (growslice_fits (by omega) hb3)
    have hq := hrun.symm.trans hr2
    injection hq with e1 e2
    subst e2
    exact ⟨rfl, rfl, rfl, by simp, fun j hj => Below.heap_alloc w.drew _ j hj⟩

end Go.Proofs.Ytemalidanjfmkaa
