/-
  The program's tree, all that is known of it in one word; its calls by that.
-/
import Derived.Test.YtlcablkhomnieaaTrSplit
import Derived.Test.YtlcablkhomnieaaK48
import Derived.Test.YtlcablkhomnieaaK49
import Derived.Test.YtlcablkhomnieaaK44
namespace Go.Proofs.Ytlcablkhomnieaa
set_option linter.unusedVariables false
open Go.RowKit

section
variable {w0 w w' : World} {b : Nat} {p p' : Tp} {s s' : Tr} {a : Option Addr} {l : List Int}
theorem RzT.below (h : RzT w p s a l) (hb : Below w.heap.size w w') : RzT w' p s a l := ⟨h.1.below hb, fun x e => ⟨Nat.lt_of_lt_of_le (h.2 x e).1 hb.size, (h.2 x e).2⟩⟩
theorem RzT.chg (h : RzT w p s a l) (hb : Bx (p.has s) w w') (hg : GwT p p' s s' w.heap.size) : RzT w' p' s' a l :=
  ⟨h.rd hb, fun x e => ⟨Nat.lt_of_lt_of_le (h.2 x e).1 hb.size, fun q => (hg _ q).elim (h.2 x e).2 (by have := (h.2 x e).1; omega)⟩⟩
/-- The tree at block b stands for s; nothing else that was there is changed. -/
structure Tt (w0 w : World) (b : Nat) (p : Tp) (s : Tr) : Prop where
  tm : TM w0.heap.size w p s
  wf : s.Wf
  sz : ∀ i, i < s.nn → p.sz i ≤ 3 * s.nl
  bl : Below w0.heap.size w0 w
  pb : p.b = b
theorem Tt.below (h : Tt w0 w b p s) (hb : Below w.heap.size w w') : Tt w0 w' b p s := ⟨h.tm.below hb, h.wf, h.sz, bstep h.bl hb, h.pb⟩
theorem RzT.own (h : Tt w0 w b p s) {n c : Nat} {ty : TypeId} (ho : OwnL .i64 ty w' w.heap.size (.slice a n c) l) : RzT w' p s a l ∧ n = l.length := by
  obtain ⟨a', c', e, -, -, -, hr, hb⟩ := ho.shape
  injection e with e1 e2 e3
  subst e1
  refine ⟨⟨hr, fun x ex => ⟨(hb x ex).2, fun q => ?_⟩⟩, e2⟩
  have := (h.tm.hlt q).2
  have := (hb x ex).1
  omega
/-- A list that lies below all of the tree. -/
theorem RzT.low (h : Tt w0 w b p s) (hr : RdL .i64 w a l) (ha : ∀ x, a = some x → x.block < w0.heap.size) : RzT w p s a l := ⟨hr, fun x e => ⟨Nat.lt_of_lt_of_le (ha x e) h.bl.size, fun q => by have := (h.tm.hlt q).1; have := ha x e; omega⟩⟩
theorem Tt.new {kind k o : Int} (h0 : tnE kind k o = 0) (w : World) : Calls Try.prog 10 #[.int .i64 kind, .int .i64 k, .int .i64 o] w fun e w' => ∃ b p, e = .returned (.tuple #[.pointer (some ⟨b, 0, none⟩), .int .i64 0]) ∧ Tt w w' b p (trN kind k o) := by
  unfold tnE at h0
  split at h0
  · omega
  split at h0
  · omega
  split at h0
  · omega
  rename_i c1 c2 c3
  refine (tnew_ok kind k o w (by omega) (by omega) (by omega) c3).mono ?_
  rintro e w' (⟨q, -⟩ | ⟨-, p, rfl, hT, hb⟩)
  · exfalso; apply q; unfold tnE; rw [if_neg c1, if_neg c2, if_neg c3]
  · refine ⟨p.b, p, rfl, hT, Tr.Wf.new (by omega) (by omega) (by omega) (by omega) (by omega) (fun e => by omega), fun i hi => ?_, hb, rfl⟩
    rw [trN_eq] at hi
    exact absurd hi (Nat.not_lt_zero _)
/-- What a call that turns the tree leaves. -/
def QtP (w0 : World) (b : Nat) (p : Tp) (s s' : Tr) (v : Value) (w : World) (e : Ending) (w' : World) : Prop :=
  ∃ p', e = .returned v ∧ Tt w0 w' b p' s' ∧ Bx (p.has s) w w' ∧ GwT p p' s s' w.heap.size
theorem Tt.ch {v : Value} (h : Tt w0 w b p s) (hw : s'.Wf) {e : Ending} (hp : ChT w0.heap.size p s s' v w e w') : QtP w0 b p s s' v w e w' := by
  obtain ⟨p', rfl, T, hb, hg, e, hz⟩ := hp
  exact ⟨p', rfl, ⟨T, hw, hz, h.bl.trans (hb.below (fun k hk => (h.tm.hlt hk).1) h.bl.size), by rw [e]; exact h.pb⟩, hb, hg⟩
theorem Tt.sift (h : Tt w0 w b p s) (a : Option Addr) (c : Nat) (l : List Int) (hr : RdL .i64 w a l) (hn : a = none → l.length = 0 ∧ c = 0) (hl : l.length ≤ maxLen) :
    Calls Try.prog 14 #[.pointer (some ⟨b, 0, none⟩), .slice a l.length c] w (QtP w0 b p s (s.siftT l).1 (.int .i64 (s.siftT l).2) w) := by
  have := sift_any h.tm (by obtain ⟨n, q, -⟩ := h.wf.root; exact ⟨n, q⟩) h.sz h.bl.size a c l hr hn hl
  rw [h.pb] at this
  exact this.mono fun e w' hp => h.ch (h.wf.sift l) hp
theorem ans_of {s : Tr} {q d out : List Int} (hf : fitR s (q ++ d) out = 0) : s.ans d (ofR s d out) := by
  rcases fitR_ok hf with ⟨k, l, i⟩ | ⟨k, l, i⟩
  · left
    have : ofR s d out = out := by unfold ofR; rw [if_neg (by omega)]
    rw [this]; exact ⟨k, l, i⟩
  · right
    have : ofR s d out = out.drop (out.length - d.length) := by unfold ofR; rw [if_pos k]
    rw [this]
    refine ⟨k, by rw [List.length_drop, l, List.length_append]; omega, ?_⟩
    unfold inB at i ⊢
    rw [List.all_eq_true] at i ⊢
    exact fun x hx => i x (List.mem_of_mem_drop hx)
theorem Tr.Wf.tell (h : s.Wf) (out : List Int) : (s.tellT out).1.Wf := by
  unfold Tr.tellT
  cases hq : s.pos with
  | none => exact h
  | some n =>
    cases n with
    | inr j => exact h
    | inl i =>
      show (if fitR s (s.sif ++ (s.nd i).wd) out ≠ 0 then (s, (100 : Int)) else s.tellN i (ofR s (s.nd i).wd out)).1.Wf
      split
      · exact h
      · rename_i c
        have hf : fitR s (s.sif ++ (s.nd i).wd) out = 0 := by simpa using c
        have hi : i < s.nn := h.ok.ps _ hq
        unfold Tr.tellN
        cases hc : s.ch i (ofR s (s.nd i).wd out) with
        | some n => exact h.at s.sif h.si (some n) (fun m e => by cases e; exact h.ok.ch i _ n hi hc)
        | none =>
          show (if s.nl = 1024 then (s, (3 : Int)) else _).1.Wf
          split
          · exact h
          · rename_i c2
            have hl := fit_len hf
            rw [List.length_append] at hl
            have := h.si.1
            have := (h.wd i hi).2.1
            have := ofR_len (s := s) (d := (s.nd i).wd) (out := out)
            have hW := h.leaf hi hc (ans_of hf) (by have := h.n1; omega) s.sif ⟨h.si.2, h.si.1⟩ (fun y hy => fit_sb h hf y (ofR_mem y hy)) (by omega)
            exact hW.at _ hW.si (some (.inr s.nl)) (fun m e => by cases e; exact Nat.lt_succ_self _)
theorem Tt.tell (h : Tt w0 w b p s) (a : Option Addr) (c : Nat) (out : List Int) (hr : RdL .i64 w a out) (hl : out.length ≤ c) (hc : c ≤ maxLen) :
    Calls Try.prog 16 #[.pointer (some ⟨b, 0, none⟩), .slice a out.length c] w (QtP w0 b p s (s.tellT out).1 (.int .i64 (s.tellT out).2) w) := by
  by_cases q : ∃ i, s.pos = some (.inl i)
  · obtain ⟨i, q⟩ := q
    have := tell_on h.tm h.wf h.sz h.bl.size i q a c out hr hl hc
    rw [h.pb] at this
    exact this.mono fun e w' hp => h.ch (h.wf.tell out) hp
  · have := tell_off h.tm h.sz (.slice a out.length c) (fun i e => q ⟨i, e⟩)
    rw [h.pb] at this
    have e1 : s.tellT out = (s, 7) := by
      unfold Tr.tellT
      cases e : s.pos with
      | none => rfl
      | some n =>
        cases n with
        | inl i => exact absurd ⟨i, e⟩ q
        | inr j => rfl
    rw [e1]
    exact this.mono fun e w' hp => h.ch h.wf hp
theorem Tt.ask (h : Tt w0 w b p s) : Calls Try.prog 26 #[.pointer (some ⟨b, 0, none⟩)] w (AkP s.askT w) := by
  have := ask_any h.tm h.wf
  rwa [h.pb] at this
theorem Tt.leaf (h : Tt w0 w b p s) : Calls Try.prog 27 #[.pointer (some ⟨b, 0, none⟩)] w fun e w' => e = .returned (lfV s.leafT) ∧ w' = w := by
  have := leaf_any h.tm h.wf.ok
  rwa [h.pb] at this
theorem Tt.count (h : Tt w0 w b p s) : Calls Try.prog 28 #[.pointer (some ⟨b, 0, none⟩)] w fun e w' => e = .returned (.int .i64 (s.nl : Int)) ∧ w' = w := by
  have := count_any h.tm
  rwa [h.pb] at this
theorem Tt.depth (h : Tt w0 w b p s) : Calls Try.prog 29 #[.pointer (some ⟨b, 0, none⟩)] w fun e w' => e = .returned (.int .i64 (s.dep : Int)) ∧ w' = w := by
  have := depth_any h.tm
  rwa [h.pb] at this
theorem Tt.access (h : Tt w0 w b p s) (j : Nat) (hj : j < s.nl) : Calls Try.prog 22 #[.pointer (some ⟨b, 0, none⟩), .int .i64 (j : Int)] w (AcP (s.lf j).ac 0 w) := by
  have := access_ok h.tm h.wf j hj
  rwa [h.pb] at this
theorem Tt.common (h : Tt w0 w b p s) {x y : Nat} (hx : x < s.nl) (hy : y < s.nl) (hne : x ≠ y) : ∃ r, s.low x y r ∧ Calls Try.prog 24 #[.pointer (some ⟨b, 0, none⟩), .int .i64 (x : Int), .int .i64 (y : Int)] w (AcP (s.nd r).wd 0 w) := by
  obtain ⟨r, hr⟩ := h.wf.hasLow hx hy hne
  have := common_ok h.tm h.wf hx hy hne hr (hide fun X hX => lowest_any (h.tm.below hX) h.wf hx hy hr)
  rw [h.pb] at this
  exact ⟨r, hr, this⟩
/-- What Split does. -/
def Tr.splT (s : Tr) (j : Int) (d w was now : List Int) : Tr × Int := if s.splE j d w was now = 0 then (s.splD j.toNat d w was now, (s.nl : Int)) else (s, 0)
theorem splE_ok {j : Int} {d w was now : List Int} (h : s.Wf) (e : s.splE j d w was now = 0) : (0 ≤ j ∧ j < (s.nl : Int)) ∧ wdE d s.k = 0 ∧ wdE w s.k = 0 ∧ (s.kind = 2 → 0 < d.length) ∧ fitR s d was = 0 ∧ fitR s d now = 0 ∧ was ≠ now ∧ s.nl < 1024 := by
  unfold Tr.splE at e
  split at e
  · cases e
  rename_i q0
  split at e
  · rename_i q1; exact absurd e q1
  rename_i q1
  split at e
  · rename_i q2; exact absurd e q2
  rename_i q2
  split at e
  · cases e
  rename_i q3
  split at e
  · cases e
  rename_i q4
  split at e
  · cases e
  rename_i q5
  split at e
  · cases e
  split at e
  · cases e
  rename_i q7
  have := h.n1
  exact ⟨Classical.not_not.1 q0, by simpa using q1, by simpa using q2, fun k => by
    rcases Nat.eq_zero_or_pos d.length with z | z
    · exact absurd ⟨k, z⟩ q3
    · exact z, by
    refine Classical.byContradiction fun c => q4 (.inl c), by
    refine Classical.byContradiction fun c => q4 (.inr c), q5, by omega⟩
theorem ans_fit {d x : List Int} (hf : fitR s d x = 0) : s.ans d x := fitR_ok hf
theorem Tt.split (h : Tt w0 w b p s) (j : Int) (ad : Option Addr) (cd : Nat) (d : List Int) (aw : Option Addr) (cw : Nat) (l : List Int) (a1 : Option Addr) (c1 : Nat) (was : List Int) (a2 : Option Addr) (c2 : Nat) (now : List Int)
    (rd : RzT w p s ad d) (nd : ad = none → d.length = 0 ∧ cd = 0) (rw' : RzT w p s aw l) (nw : aw = none → l.length = 0 ∧ cw = 0) (r1 : RzT w p s a1 was) (r2 : RzT w p s a2 now) (ld : d.length ≤ maxLen) (lw : l.length ≤ maxLen) (l1 : was.length ≤ maxLen) (l2 : now.length ≤ maxLen) :
    Calls Try.prog 18 #[.pointer (some ⟨b, 0, none⟩), .int .i64 j, .slice ad d.length cd, .slice aw l.length cw, .slice a1 was.length c1, .slice a2 now.length c2] w (QtP w0 b p s (s.splT j d l was now).1 (.tuple #[.int .i64 (s.splT j d l was now).2, .int .i64 (s.splE j d l was now)]) w) := by
  have hck := checkSplit_any h.tm h.wf j ad cd d aw cw l a1 c1 was a2 c2 now rd.1 rw'.1 r1.1 r2.1 ld lw l1 l2
  by_cases e : s.splE j d l was now = 0
  · obtain ⟨q0, q1, q2, q3, q4, q5, q6, q7⟩ := splE_ok h.wf e
    rw [e] at hck
    obtain ⟨J, rfl⟩ : ∃ J : Nat, j = (J : Int) := ⟨j.toNat, by omega⟩
    have hd := wdE_wrd q1
    have hw := wdE_wrd q2
    have f1 := fit_len q4
    have f2 := fit_len q5
    have sb1 := fit_sb h.wf q4
    have sb2 := fit_sb h.wf q5
    have := split_yes h.tm h.wf h.sz h.bl.size J (by omega) ad cd d aw cw l a1 c1 was a2 c2 now rd nd rw' nw r1 r2 hd.1 hw.1 ⟨sb1, by omega⟩ ⟨sb2, by omega⟩ (by omega) (by omega) hck
    have e2 : s.splT (J : Int) d l was now = (s.splD J d l was now, (s.nl : Int)) := by unfold Tr.splT; rw [if_pos e, Int.toNat_natCast]
    rw [e2, e]
    rw [h.pb] at this
    exact this.mono fun e w' hp => h.ch (h.wf.split (by omega) ⟨hd.2, hd.1, q3⟩ ⟨hw.2, hw.1⟩ (ans_fit q4) (ans_fit q5) q6 q7 ⟨sb1, by omega⟩ ⟨sb2, by omega⟩) hp
  · have := split_no h.tm h.sz j _ _ _ _ _ e hck
    have e2 : s.splT j d l was now = (s, 0) := by unfold Tr.splT; rw [if_neg e]
    rw [e2]
    rw [h.pb] at this
    exact this.mono fun e w' hp => h.ch h.wf hp
end

end Go.Proofs.Ytlcablkhomnieaa
