/-
  A cache that was new, and one word Put: Words tells that word; lists of the caller's own, put together.
-/
import Derived.Test.YtemalidanjfmkaaUBeg
import Derived.Test.YtemalidanjfmkaaNWds
import Derived.Test.YtemalidanjfmkaaK1
import Derived.Test.YtemalidanjfmkaaLsts
namespace Go.Proofs.Ytemalidanjfmkaa
open Go.RowKit

theorem wds_first {kd : Int} (hk : kd = 1 ∨ kd = 2) {w out : List Int} (h : (putV (newV kd 3 2 500) w out).2 = 0) : Wds (putV (newV kd 3 2 500) w out).1 [w] := by
  obtain ⟨e, -, -, -, -⟩ := put_ok h
  have hpc : Pcs (newV kd 3 2 500) := Pcs.new (by rcases hk with rfl | rfl <;> decide)
  have hfp := find_put hpc.wl h
  have hkd : (putV (newV kd 3 2 500) w out).1.kind = kd := by rw [e]; rfl
  have hmem : ∀ u, u ∈ (putV (newV kd 3 2 500) w out).1.bg → ∃ i, i ≤ w.length ∧ u = w.take i := fun u hu => by
    rw [put_bg h] at hu
    unfold frsV at hu
    rw [frs_mem] at hu
    rcases hu with hu | ⟨i, hi, rfl⟩
    · obtain rfl : u = [] := by simpa [newV] using hu
      exact ⟨0, by omega, by simp⟩
    · exact ⟨i, by omega, rfl⟩
  have hwm : w ∈ (putV (newV kd 3 2 500) w out).1.bg := (hpc.put h).ins w out hfp
  refine ⟨by unfold Srt; simp, fun u => ?_⟩
  rw [List.mem_singleton]
  constructor
  · rintro rfl
    refine ⟨hwm, by rw [hfp]; rfl, ?_⟩
    rintro ⟨-, v, hv, hne, hb⟩
    obtain ⟨i, hi, rfl⟩ := hmem v hv
    obtain ⟨b1, b2⟩ := begV_iff.1 hb
    rw [List.length_take] at b1
    exact hne (by rw [List.take_of_length_le (by omega)])
  · rintro ⟨hu, hf, hno⟩
    obtain ⟨i, hi, rfl⟩ := hmem u hu
    rcases hk with rfl | rfl
    · rw [beg_dfa h hi] at hf
      have : i = w.length := of_decide_eq_true hf
      rw [this, List.take_length]
    · refine Classical.byContradiction fun hne => hno ⟨hkd, w, hwm, fun e => hne e.symm, begV_iff.2 ?_⟩
      rw [List.length_take, Nat.min_eq_left hi]
      exact ⟨hi, rfl⟩
section
variable {w w4 : World} {B B' : Nat}
/-- append(s, x...) of slices of lists, as it runs. -/
theorem runV_app (ty : TypeId) (v : Value) (n : Nat) (f : Nat → Value) (hown : OwnV w B v n f) (ad : Addr) (m c : Nat) (g : Nat → Value) (hrd : RdV w (some ad) m g) (h1 : ∀ i, i < m → ∃ a k c, g i = .slice a k c) (hl : n + m ≤ 1000000000) (hbase : B ≤ w.heap.size) :
    ∃ v' w', (Builtin.append_ #[32, 32] ty #[v, .slice (some ad) m c]).run Try.prog w = .ok v' w' ∧ OwnV w' B v' (n + m) (joinV n f g) ∧ w.grownBy w' v.ownBlock ∧ (v'.ownBlock = v.ownBlock ∨ v'.ownBlock = some w.heap.size) := by
  obtain ⟨i, hi, hz0, hz1, hz2⟩ := info_parts infoInts
  obtain ⟨v', w', hrun, r1, r2, _, r4⟩ := run_append_own_at (P := Try.prog) w B 32 ty 29 i (.slice none 0 0) 1 24 Try.underlying32 hi hz0 hz1 hz2 rfl (by decide) v n (cellsV n f) hown ad m c (cellsV m g) (by rw [length_cellsV]; omega) (fun j u hj => by
      have hjm : j < m := by have := (List.getElem?_eq_some_iff.1 hj).1; rwa [length_cellsV] at this
      rw [cellsV_get hjm] at hj
      obtain ⟨b, off, e, hc⟩ := hrd.at hjm
      cases e
      rw [← hj, add_at]
      exact hc j hjm) (cellsV_one h1) (by unfold maxLen; omega) (by omega) hbase
  refine ⟨v', w', hrun, ?_, r2, r4⟩
  unfold OwnV; rw [← cellsV_join]; exact r1
theorem wplV_app4 {ops : Array Oper} {rest : List Oper} {o : Oper} {a : Act} {Q : Exit → Act → World → Prop} (hw : Region.wanted o (yielded ops a.tmps) = true) (s x : Operand) (ho : o.op = .call { callee := .builtin .append, args := #[s, x], argTypes := #[32, 32] })
    (B : Nat) (v : Value) (n : Nat) (f : Nat → Value) (hs : a.eval s = v) (hown : OwnV w B v n f) (ad : Addr) (m c : Nat) (g : Nat → Value) (hx : a.eval x = .slice (some ad) m c) (hrd : RdV w (some ad) m g) (h1 : ∀ i, i < m → ∃ a k c, g i = .slice a k c) (hl : n + m ≤ 1000000000) (hbase : B ≤ w.heap.size)
    (h : ∀ v' w', OwnV w' B v' (n + m) (joinV n f g) → w.grownBy w' v.ownBlock → (v'.ownBlock = v.ownBlock ∨ v'.ownBlock = some w.heap.size) → wpList Try.prog ops Q rest (a.put o.dst v') w') :
    wpList Try.prog ops Q (o :: rest) a w := by
  refine wpList_step fun K hK => ?_
  rw [if_pos hw]
  obtain ⟨v', w', hrun, r1, r2, r3⟩ := runV_app (w := w) o.type v n f hown ad m c g hrd h1 hl hbase
  unfold Oper.wp
  simp [execOp, ho, resolve, invoke, builtin, hs, hx, hrun, Result.andThen]
  exact hK _ _ (h v' w' r1 r2 r3)
/-- Lists of the caller's own, and others behind them. -/
theorem LLs.cat {v1 v2 v' : Value} {us1 us2 : Nat → Value} {L1 L2 : List (List Int)} (h1 : LLs w B v1 us1 L1) (h2 : LLs w B' v2 us2 L2) (hB : B ≤ B') (hlt : ∀ i, i < L1.length → ∀ b, (us1 i).ownBlock = some b → b < B') (hv1 : ∀ b, v1.ownBlock = some b → b < B') (hg : w.grownBy w4 v1.ownBlock)
    (hv : v'.ownBlock = v1.ownBlock ∨ v'.ownBlock = some w.heap.size) :
    Fam w4 B (L1.length + L2.length) (joinV L1.length us1 us2) (fun i => if i < L1.length then nsV L1 i else nsV L2 (i - L1.length)) (fun i => if i < L1.length then fsV L1 i else fsV L2 (i - L1.length)) ∧ ∀ b, v'.ownBlock = some b → ∀ i, i < L1.length + L2.length → (joinV L1.length us1 us2 i).ownBlock ≠ some b := by
  have k1 : ∀ i, i < L1.length → ∀ b, (us1 i).ownBlock = some b → w4.heap[b]? = w.heap[b]? := fun i hi b e => hg.block b ((h1.fam.own i hi).lt e).2 (fun e2 => h1.ap b e2.symm i hi e)
  have k2 : ∀ i, i < L2.length → ∀ b, (us2 i).ownBlock = some b → w4.heap[b]? = w.heap[b]? := fun i hi b e => hg.block b ((h2.fam.own i hi).lt e).2 (fun e2 => by
    have := hv1 b e2.symm
    have := ((h2.fam.own i hi).lt e).1
    omega)
  refine ⟨⟨fun i hi => ?_, fun i j hi hj hne b e1 e2 => ?_⟩, fun b e i hi e2 => ?_⟩
  · by_cases c : i < L1.length
    · rw [joinV_lt c, if_pos c]
      simp only [if_pos c]
      exact (h1.fam.own i c).keep (k1 i c)
    · rw [joinV_ge (by omega), if_neg c]
      simp only [if_neg c]
      exact ((h2.fam.own (i - L1.length) (by omega)).keep (k2 _ (by omega))).base hB
  · by_cases c : i < L1.length
    · rw [joinV_lt c] at e1
      by_cases d : j < L1.length
      · rw [joinV_lt d] at e2; exact h1.fam.apart i j c d hne b e1 e2
      · rw [joinV_ge (by omega)] at e2
        have := hlt i c b e1
        have := ((h2.fam.own (j - L1.length) (by omega)).lt e2).1
        omega
    · rw [joinV_ge (by omega)] at e1
      by_cases d : j < L1.length
      · rw [joinV_lt d] at e2
        have := hlt j d b e2
        have := ((h2.fam.own (i - L1.length) (by omega)).lt e1).1
        omega
      · rw [joinV_ge (by omega)] at e2
        exact h2.fam.apart (i - L1.length) (j - L1.length) (by omega) (by omega) (by omega) b e1 e2
  · by_cases c : i < L1.length
    · rw [joinV_lt c] at e2
      rcases hv with hv | hv
      · exact h1.ap b (hv ▸ e) i c e2
      · rw [hv] at e; cases e
        have := ((h1.fam.own i c).lt e2).2
        omega
    · rw [joinV_ge (by omega)] at e2
      have h3 := (h2.fam.own (i - L1.length) (by omega)).lt e2
      rcases hv with hv | hv
      · have := hv1 b (hv ▸ e); omega
      · rw [hv] at e; cases e; omega
/-- Two lists, the one behind the other. -/
def twoV (a b : Value) (i : Nat) : Value := if i = 0 then a else b
theorem OwnV.two (w : World) (B : Nat) (v0 v1 : Value) (hb : B ≤ w.heap.size) : OwnV (w.alloc (.cells #[v0, v1] 29)) B (.slice (some ⟨w.heap.size, 0, none⟩) 2 2) 2 (twoV v0 v1) := by
  unfold OwnV
  have e : cellsV 2 (twoV v0 v1) = (#[v0, v1] : Array Value).toList := rfl
  rw [e]
  exact World.ownsRow_lit w #[v0, v1] 2 hb (by unfold maxLen; simp) rfl
theorem Fam.two {v0 v1 : Value} {l0 l1 : List Int} (h0 : OwnL .i64 3 w B v0 l0) (h1 : OwnL .i64 3 w B v1 l1) {s : Nat} (a0 : ∀ b, v0.ownBlock = some b → b < s) (a1 : ∀ b, v1.ownBlock = some b → s ≤ b) :
    Fam w B 2 (twoV v0 v1) (fun i => (if i = 0 then l0 else l1).length) (fun i j => (if i = 0 then l0 else l1).getD j 0) := by
  refine ⟨fun i hi => ?_, fun i j hi hj hne b e1 e2 => ?_⟩
  · by_cases c : i = 0
    · subst c; exact own_of_list h0
    · obtain rfl : i = 1 := by omega
      exact own_of_list h1
  · by_cases c : i = 0
    · subst c
      obtain rfl : j = 1 := by omega
      have := a0 b e1; have := a1 b e2; omega
    · obtain rfl : i = 1 := by omega
      obtain rfl : j = 0 := by omega
      have := a0 b e2; have := a1 b e1; omega
theorem Co.low {b g cap : Nat} {c : Cs} {R : List En} {B0 : Nat} (h : Co B0 w b g cap c R) (hb : Below B w w4) (h1 : b < B) (h2 : g < B) : Co B0 w4 b g cap c R := h.keep (hb.block _ h1) (hb.block _ h2)
end

end Go.Proofs.Ytemalidanjfmkaa
