/-
  Some texts of this seat, one behind the other.
-/
import Derived.Test.YtepmdnggiajkbaaK39
import Derived.Test.YtepmdnggiajkbaaK41
import Derived.Test.YtepmdnggiajkbaaK6
import Derived.Test.YtepmdnggiajkbaaTpHyp
/-
  The program's table: what nil objects answer; New's errors.
-/
namespace Go.Proofs.Ytepmdnggiajkbaa
set_option linter.unusedVariables false
open Go.RowKit

theorem tb_nil_row (v : Value) (w : World) : Calls Try.prog 10 #[.pointer none, v] w fun e w' => e = .returned (.int .i64 5) ∧ w' = w := by
  go_enter Try.func10, Try.ntmps10
  go_wp2
  go_ret
  exact ⟨rfl, by trivial⟩
theorem tb_nil_col (v : Value) (w : World) : Calls Try.prog 11 #[.pointer none, v] w fun e w' => e = .returned (.int .i64 5) ∧ w' = w := by
  go_enter Try.func11, Try.ntmps11
  go_wp2
  go_ret
  exact ⟨rfl, by trivial⟩
theorem tb_nil_put (v u : Value) (w : World) : Calls Try.prog 12 #[.pointer none, v, u] w fun e w' => e = .returned (.int .i64 5) ∧ w' = w := by
  go_enter Try.func12, Try.ntmps12
  go_wp2
  go_ret
  exact ⟨rfl, by trivial⟩
theorem tb_nil_mis (w : World) : Calls Try.prog 5 #[.pointer none] w fun e w' => e = .returned (.tuple #[.slice none 0 0, .bool false]) ∧ w' = w := by
  go_enter Try.func5, Try.ntmps5
  go_wp2
  go_ret2
  exact ⟨rfl, by trivial⟩
theorem tb_nil_opn (w : World) : Calls Try.prog 6 #[.pointer none] w fun e w' => e = .returned (.tuple #[.slice none 0 0, .bool false]) ∧ w' = w := by
  go_enter Try.func6, Try.ntmps6
  go_wp2
  go_ret2
  exact ⟨rfl, by trivial⟩
theorem tb_nil_trn (w : World) : Calls Try.prog 7 #[.pointer none] w fun e w' => e = .returned (.tuple #[.slice none 0 0, .bool false]) ∧ w' = w := by
  go_enter Try.func7, Try.ntmps7
  go_wp2
  go_ret2
  exact ⟨rfl, by trivial⟩
theorem tb_nil_rows (w : World) : Calls Try.prog 13 #[.pointer none] w fun e w' => e = .returned (.slice none 0 0) ∧ w' = w := by
  go_enter Try.func13, Try.ntmps13
  go_wp2
  go_ret
  exact ⟨rfl, by trivial⟩
theorem tb_nil_cols (w : World) : Calls Try.prog 14 #[.pointer none] w fun e w' => e = .returned (.slice none 0 0) ∧ w' = w := by
  go_enter Try.func14, Try.ntmps14
  go_wp2
  go_ret
  exact ⟨rfl, by trivial⟩
set_option maxRecDepth 100000 in
theorem new_any (kind k o : Int) (w : World) : Calls Try.prog 19 #[.int .i64 kind, .int .i64 k, .int .i64 o] w (NewP kind k o w) := by
  by_cases hk : kind = 1 ∨ kind = 2
  · by_cases h1 : 1 ≤ k ∧ k ≤ 64
    · obtain ⟨K, rfl⟩ : ∃ K : Nat, k = (K : Int) := ⟨k.toNat, by omega⟩
      by_cases ho : ((kind = 1 ∧ o ≠ 2) ∨ o < 1 ∨ 64 < o)
      · have HP : Hid (NewP kind K o w (.returned (.tuple #[.pointer none, .int .i64 33])) w) := hide (.inl (by
          have : tnE kind (K : Int) o = 33 := by unfold tnE; rw [if_neg (by omega), if_neg (by omega), if_pos ho]
          rw [this]; exact ⟨by decide, rfl, Below.refl _ _⟩))
        have hh := haveO_any kind o w hk
        rw [decide_eq_false (fun q => q ho)] at hh
        have hK1 : ¬ (K : Int) < 1 := by omega
        have hK2 : ¬ (64 : Int) < (K : Int) := by omega
        clear ho h1
        rcases hk with rfl | rfl
        all_goals (
          go_enter Try.func19, Try.ntmps19
          go_wp2_with fail
          refine hh.mono ?_
          rintro e w1 ⟨rfl, hw1⟩
          subst hw1
          go_wp2
          go_ret2
          exact unhide HP)
      · rcases hk with rfl | rfl
        · exact new_ok1 o K w (by omega) (by omega) ho
        · exact new_ok2 o K w (by omega) (by omega) ho
    · have HP : Hid (NewP kind k o w (.returned (.tuple #[.pointer none, .int .i64 1])) w) := hide (.inl (by
        have : tnE kind k o = 1 := by unfold tnE; rw [if_neg (by omega), if_pos (by omega)]
        rw [this]; exact ⟨by decide, rfl, Below.refl _ _⟩))
      by_cases h2 : k < 1
      · clear h1
        rcases hk with rfl | rfl
        all_goals (
          go_enter Try.func19, Try.ntmps19
          go_wp2
          go_ret2
          exact unhide HP)
      · have h3 : 64 < k := by omega
        clear h1
        rcases hk with rfl | rfl
        all_goals (
          go_enter Try.func19, Try.ntmps19
          go_wp2
          go_ret2
          exact unhide HP)
  · have HP : Hid (NewP kind k o w (.returned (.tuple #[.pointer none, .int .i64 30])) w) := hide (.inl (by
      have : tnE kind k o = 30 := by unfold tnE; rw [if_pos (by omega)]
      rw [this]; exact ⟨by decide, rfl, Below.refl _ _⟩))
    have e1 : (kind != 1) = true := by simp; omega
    have e2 : (kind != 2) = true := by simp; omega
    clear hk
    go_enter Try.func19, Try.ntmps19
    go_wp2
    go_ret2
    exact unhide HP

end Go.Proofs.Ytepmdnggiajkbaa

/-
  The program's table, all that is known of it in one word; its calls by that.
-/
namespace Go.Proofs.Ytepmdnggiajkbaa
set_option linter.unusedVariables false
open Go.RowKit

section
variable {w0 w w' : World} {b : Nat} {p p' : Tl} {t : Tb} {a : Option Addr} {l : List Int}
/-- A list that was told: it lies outside of the table. -/
def Rz (w : World) (p : Tl) (a : Option Addr) (l : List Int) : Prop := RdL .i64 w a l ∧ ∀ x, a = some x → x.block < w.heap.size ∧ ¬ p.has x.block
theorem Rz.below (h : Rz w p a l) (hb : Below w.heap.size w w') : Rz w' p a l := ⟨h.1.below hb, fun x e => ⟨Nat.lt_of_lt_of_le (h.2 x e).1 hb.size, (h.2 x e).2⟩⟩
theorem Rz.chg (h : Rz w p a l) (hb : Bx p.has w w') (hg : Gw p p' w.heap.size) : Rz w' p' a l :=
  ⟨h.1.bx hb fun x e => (h.2 x e).2, fun x e => ⟨Nat.lt_of_lt_of_le (h.2 x e).1 hb.size, fun q => (hg _ q).elim (h.2 x e).2 (by have := (h.2 x e).1; omega)⟩⟩
theorem Rz.bx (h : Rz w p a l) (hb : Bx p.has w w') : Rz w' p a l := h.chg hb (Gw.refl _ _)
/-- The table at block b stands for t; nothing else that was there is changed. -/
structure Tq (w0 w : World) (b : Nat) (p : Tl) (t : Tb) : Prop where
  tab : ∃ s, Tab w0.heap.size w p s t
  tk : Tk t
  bl : Below w0.heap.size w0 w
  pb : p.b = b
theorem Tq.lt (h : Tq w0 w b p t) {k : Nat} (e : p.has k) : w0.heap.size ≤ k ∧ k < w.heap.size := by obtain ⟨s, T⟩ := h.tab; exact T.o.hlt e
theorem Tq.below (h : Tq w0 w b p t) (hb : Below w.heap.size w w') : Tq w0 w' b p t := by
  obtain ⟨s, T⟩ := h.tab
  exact ⟨⟨s, T.below hb⟩, h.tk, bstep h.bl hb, h.pb⟩
theorem Tq.ln (h : Tq w0 w b p t) : t.os.length = t.ws.length := by obtain ⟨s, T⟩ := h.tab; exact T.vw.ln
theorem Tq.tok (h : Tq w0 w b p t) : Tok t := by obtain ⟨s, T⟩ := h.tab; exact T.tok h.tk
/-- What is told of the call's own lies outside of the table. -/
theorem Rz.own (h : Tq w0 w b p t) {n c : Nat} {ty : TypeId} (ho : OwnL .i64 ty w' w.heap.size (.slice a n c) l) : Rz w' p a l ∧ n = l.length := by
  obtain ⟨a', c', e, -, -, -, hr, hb⟩ := ho.shape
  injection e with e1 e2 e3
  subst e1
  refine ⟨⟨hr, fun x ex => ⟨(hb x ex).2, fun q => ?_⟩⟩, e2⟩
  have := (h.lt q).2
  have := (hb x ex).1
  omega
theorem Tq.new {kind k o : Int} (h0 : tnE kind k o = 0) (w : World) : Calls Try.prog 19 #[.int .i64 kind, .int .i64 k, .int .i64 o] w fun e w' => ∃ b p, e = .returned (.tuple #[.pointer (some ⟨b, 0, none⟩), .int .i64 0]) ∧ Tq w w' b p (tnV kind k o) := by
  refine (new_any kind k o w).mono ?_
  rintro e w' (⟨h, -⟩ | ⟨-, p, s, rfl, T, hb⟩)
  · exact absurd h0 h
  · exact ⟨p.b, p, rfl, ⟨⟨s, T⟩, Tk.new h0, hb, rfl⟩⟩
/-- What Missing, Open, Torn leave. -/
def QwP (w0 : World) (b : Nat) (p : Tl) (t : Tb) (r : Option (List Int)) (w : World) (e : Ending) (w' : World) : Prop :=
  ∃ a c, e = .returned (.tuple #[.slice a (r.getD []).length c, .bool r.isSome]) ∧ Rz w' p a (r.getD []) ∧ Tq w0 w' b p t ∧ Bx p.has w w'
theorem Tq.wo {r : Option (List Int)} (h : Tq w0 w b p t) {e : Ending} (hp : WoP w0.heap.size p t r w e w') : QwP w0 b p t r w e w' := by
  obtain ⟨a, c, s, rfl, ho, T, hb⟩ := hp
  exact ⟨a, c, rfl, (Rz.own h ho).1, ⟨⟨s, T⟩, h.tk, h.bl.trans (hb.below (fun k hk => (h.lt hk).1) h.bl.size), h.pb⟩, hb⟩
theorem Tq.mis (h : Tq w0 w b p t) : Calls Try.prog 5 #[.pointer (some ⟨b, 0, none⟩)] w (QwP w0 b p t (misT t) w) := by
  obtain ⟨s, T⟩ := h.tab
  have := missing_any T
  rw [h.pb] at this
  exact this.mono fun e w' hp => h.wo hp
theorem Tq.opn (h : Tq w0 w b p t) : Calls Try.prog 6 #[.pointer (some ⟨b, 0, none⟩)] w (QwP w0 b p t (opnT t) w) := by
  obtain ⟨s, T⟩ := h.tab
  have := tbopen_any T
  rw [h.pb] at this
  exact this.mono fun e w' hp => h.wo hp
theorem Tq.trn (h : Tq w0 w b p t) : Calls Try.prog 7 #[.pointer (some ⟨b, 0, none⟩)] w (QwP w0 b p t (trnT t) w) := by
  obtain ⟨s, T⟩ := h.tab
  have := tbtorn_any T
  rw [h.pb] at this
  exact this.mono fun e w' hp => h.wo hp
/-- What AddRow, AddCol, Put leave. -/
def QcP (w0 : World) (b : Nat) (p : Tl) (r : Tb × Int) (w : World) (e : Ending) (w' : World) : Prop :=
  ∃ p', e = .returned (.int .i64 r.2) ∧ Tq w0 w' b p' r.1 ∧ Bx p.has w w' ∧ Gw p p' w.heap.size
theorem Tq.ch {r : Tb × Int} (h : Tq w0 w b p t) (hk : Tk r.1) {e : Ending} (hp : ChP w0.heap.size p r w e w') : QcP w0 b p r w e w' := by
  obtain ⟨p', s, rfl, T, hb, hg, e⟩ := hp
  exact ⟨p', rfl, ⟨⟨s, T⟩, hk, h.bl.trans (hb.below (fun k hk => (h.lt hk).1) h.bl.size), by rw [e]; exact h.pb⟩, hb, hg⟩
theorem Tq.row (h : Tq w0 w b p t) (a : Option Addr) (c : Nat) (l : List Int) (hr : RdL .i64 w a l) (hl : l.length ≤ maxLen) : Calls Try.prog 10 #[.pointer (some ⟨b, 0, none⟩), .slice a l.length c] w (QcP w0 b p (adR t l) w) := by
  obtain ⟨s, T⟩ := h.tab
  have := addRow_any T a c l hr hl
  rw [h.pb] at this
  exact this.mono fun e w' hp => h.ch (h.tk.adR l) hp
theorem Tq.col (h : Tq w0 w b p t) (a : Option Addr) (c : Nat) (l : List Int) (hr : RdL .i64 w a l) (hl : l.length ≤ maxLen) : Calls Try.prog 11 #[.pointer (some ⟨b, 0, none⟩), .slice a l.length c] w (QcP w0 b p (adC t l) w) := by
  obtain ⟨s, T⟩ := h.tab
  have := addCol_any T a c l hr hl
  rw [h.pb] at this
  exact this.mono fun e w' hp => h.ch (h.tk.adC l) hp
theorem Tq.put (h : Tq w0 w b p t) (hws : t.ws.length ≤ 100000000) (a : Option Addr) (c : Nat) (l : List Int) (hr : RdL .i64 w a l) (hl : l.length ≤ maxLen) (a2 : Option Addr) (c2 : Nat) (out : List Int) (hr2 : RdL .i64 w a2 out) (hl2 : out.length ≤ maxLen) :
    Calls Try.prog 12 #[.pointer (some ⟨b, 0, none⟩), .slice a l.length c, .slice a2 out.length c2] w (QcP w0 b p (ptT t l out) w) := by
  obtain ⟨s, T⟩ := h.tab
  have := put_any T hws a c l hr hl a2 c2 out hr2 hl2
  rw [h.pb] at this
  exact this.mono fun e w' hp => h.ch (h.tk.ptT h.ln l out) hp
/-- What Hypo leaves. -/
def QhP (w0 : World) (b : Nat) (p : Tl) (t : Tb) (w : World) (e : Ending) (w' : World) : Prop :=
  ∃ a1 c1 a2 c2, e = .returned (.tuple #[mval (hyT t).1 a1 c1 a2 c2, .int .i64 (hyT t).2]) ∧ Rz w' p a1 (hyT t).1.nx ∧ Rz w' p a2 (hyT t).1.out ∧ Tq w0 w' b p t ∧ Bx p.has w w'
theorem Tq.hyp (h : Tq w0 w b p t) : Calls Try.prog 8 #[.pointer (some ⟨b, 0, none⟩)] w (QhP w0 b p t w) := by
  obtain ⟨s, T⟩ := h.tab
  have := hypo_any T h.tok
  rw [h.pb] at this
  refine this.mono ?_
  rintro e w' ⟨s', a1, c1, a2, c2, rfl, o1, o2, T2, hb⟩
  exact ⟨a1, c1, a2, c2, rfl, (Rz.own h o1).1, (Rz.own h o2).1, ⟨⟨s', T2⟩, h.tk, h.bl.trans (hb.below (fun k hk => (h.lt hk).1) h.bl.size), h.pb⟩, hb⟩
theorem Tq.rows (h : Tq w0 w b p t) : Calls Try.prog 13 #[.pointer (some ⟨b, 0, none⟩)] w (LsP t.rows w) := by
  obtain ⟨s, T⟩ := h.tab
  have := tbrows_any T
  rwa [h.pb] at this
theorem Tq.cols (h : Tq w0 w b p t) : Calls Try.prog 14 #[.pointer (some ⟨b, 0, none⟩)] w (LsP t.cols w) := by
  obtain ⟨s, T⟩ := h.tab
  have := tbcols_any T
  rwa [h.pb] at this
end

end Go.Proofs.Ytepmdnggiajkbaa
