/-
  Split of any list, right or wrong: the program's and the reference's, in the same words.
-/
import Derived.Test.YtnakadlhafggkaaQLive
import Derived.Test.YtnakadlhafggkaaQRefW
namespace Go.Proofs.Ytnakadlhafggkaa
open Go.RowKit Go.Maps

/-- The classes, how many they are, the new ones, the error: after Split of l. -/
def stC (C l : List Int) (K : Nat) : List Int := if okL C.length l = true then spC C l K K else C
def stK (C l : List Int) (K : Nat) : Nat := if okL C.length l = true then K + mixN C l K else K
def stM (C l : List Int) (K : Nat) : List Int := if okL C.length l = true then spM C l K K else []
def stE (C l : List Int) : Int := if okL C.length l = true then 0 else 1
theorem st_yes {C l : List Int} {K : Nat} (h : okL C.length l = true) : stC C l K = spC C l K K ∧ stK C l K = K + mixN C l K ∧ stM C l K = spM C l K K ∧ stE C l = 0 := ⟨if_pos h, if_pos h, if_pos h, if_pos h⟩
theorem st_no {C l : List Int} {K : Nat} (h : okL C.length l = false) : stC C l K = C ∧ stK C l K = K ∧ stM C l K = [] ∧ stE C l = 1 := by
  have h' : ¬ okL C.length l = true := by rw [h]; simp
  exact ⟨if_neg h', if_neg h', if_neg h', if_neg h'⟩
theorem stC_len (C l : List Int) (K : Nat) : (stC C l K).length = C.length := by
  unfold stC
  split
  · exact spC_len _ _ _ _
  · rfl
theorem stM_len (C l : List Int) (K : Nat) : (stM C l K).length ≤ K := by
  unfold stM
  split
  · rw [spM_len]; exact mixN_le _ _ _
  · exact Nat.zero_le _
theorem PartI.st {C : List Int} {K : Nat} (I : PartI C K) (l : List Int) : PartI (stC C l K) (stK C l K) := by
  unfold stC stK
  split
  · exact I.split l
  · exact I
/-- What Split leaves. -/
structure SbPost (w : World) (p : Pp) (gs : Nat) (s : St) (l : List Int) (w' : World) (gs' cap' : Nat) (s' : St) (v : Value) : Prop where
  at_ : PtS w' p gs' cap' s'
  pi : PI p.n s'
  K : s'.K = stK (tab p.n s.c) l s.K
  c : tab p.n s'.c = stC (tab p.n s.c) l s.K
  own : OwnL .i64 3 w' w.heap.size v (stM (tab p.n s.c) l s.K)
  vno : ∀ b, v.ownBlock = some b → ¬ p.has gs' b
  new : gs' = gs ∨ w.heap.size ≤ gs'
  bx : Bx (p.has gs) w w'
theorem split_both (p : Pp) (gs cap : Nat) (s : St) (a : Option Addr) (c : Nat) (l : List Int) (w : World) (h : PtS w p gs cap s) (I : PI p.n s) (hn : p.n ≤ 65536) (hl : l.length ≤ 1000000) (hr : RdL .i64 w a l) (ha : ∀ x, a = some x → l.length ≠ 0 → ¬ p.has gs x.block) :
    Calls Try.prog 14 #[.pointer (some ⟨p.b, 0, none⟩), .slice a l.length c] w fun e w' => ∃ gs' cap' s' v, e = .returned (.tuple #[v, .int .i64 (stE (tab p.n s.c) l)]) ∧ SbPost w p gs s l w' gs' cap' s' v := by
  have tl := tab_len p.n s.c
  cases hx : okL p.n l
  · have hx' : okL (tab p.n s.c).length l = false := by rw [tl]; exact hx
    obtain ⟨e1, e2, e3, e4⟩ := st_no (K := s.K) hx'
    refine (split_bad p gs cap s a c l w h hl hr hx).mono ?_
    rintro e w' ⟨rfl, rfl⟩
    exact ⟨gs, cap, s, .slice none 0 0, by rw [e4], h, I, by rw [e2], by rw [e1], by rw [e3]; exact OwnL.nil _ _ _ _, (by intro b e; cases e), .inl rfl, Bx.refl _ _⟩
  · have hx' : okL (tab p.n s.c).length l = true := by rw [tl]; exact hx
    obtain ⟨e1, e2, e3, e4⟩ := st_yes (K := s.K) hx'
    refine (split_ok p gs cap s a c l w h I hn hl hr ha hx).mono ?_
    rintro e w' ⟨gs', cap', s', v, rfl, hp⟩
    exact ⟨gs', cap', s', v, by rw [e4], hp.at_, hp.pi, by rw [e2]; exact hp.K, by rw [e1]; exact hp.c, by rw [e3]; exact hp.own, hp.vno, hp.new, hp.bx⟩
theorem Ob.both {w0 w w' : World} {p : Pp} {gs cap gs' cap' : Nat} {s s' : St} {l : List Int} {v : Value} (h : Ob w0 w p gs cap s) (hp : SbPost w p gs s l w' gs' cap' s' v) : Ob w0 w' p gs' cap' s' := by
  have hz := h.bl.size
  refine ⟨hp.at_, hp.pi, fun k hk => ?_, h.bl.trans (hp.bx.below h.lo hz)⟩
  rcases hk with e | e | e | e | e
  · exact h.lo k (.inl e)
  · exact h.lo k (.inr (.inl e))
  · exact h.lo k (.inr (.inr (.inl e)))
  · exact h.lo k (.inr (.inr (.inr (.inl e))))
  · rcases hp.new with d | d
    · exact h.lo k (.inr (.inr (.inr (.inr (e.trans d)))))
    · omega
/-- An object beside which something turns. -/
theorem Ob.side {w0 w w' : World} {q : Pp} {gq cq : Nat} {s : St} {X : Nat → Prop} (h : Ob w0 w q gq cq s) (hb : Bx X w w') (no : ∀ k, q.has gq k → ¬ X k) (bl : Below w0.heap.size w0 w') : Ob w0 w' q gq cq s :=
  ⟨PtAt.bx h.at_ hb no, h.pi, h.lo, bl⟩
theorem rsplit_both (a : Option Addr) (c : Nat) (C : List Int) (N : Nat) (a2 : Option Addr) (c2 : Nat) (l : List Int) (w : World) (I : PartI C N) (hC0 : 1 ≤ C.length) (hC : C.length ≤ 65536) (hN : N ≤ 65536) (hl : l.length ≤ 1000000) (hr : RdL .i64 w a C) (h2 : RdL .i64 w a2 l) :
    Calls Try.prog 15 #[.agg #[.slice a C.length c, .int .i64 (N : Nat)], .slice a2 l.length c2] w fun e w' => ∃ a' c' u, e = .returned (.tuple #[.agg #[.slice a' C.length c', .int .i64 ((stK C l N : Nat) : Int)], u, .int .i64 (stE C l)]) ∧ RdL .i64 w' a' (stC C l N) ∧ OwnL .i64 3 w' w.heap.size u (stM C l N) ∧ Below w.heap.size w w' ∧ ∀ x, a' = some x → a = some x ∨ w.heap.size ≤ x.block := by
  cases hx : okL C.length l
  · obtain ⟨e1, e2, e3, e4⟩ := st_no (K := N) hx
    refine (rsplit_bad a c C N a2 c2 l w hl h2 hx).mono ?_
    rintro e w' ⟨rfl, hb⟩
    exact ⟨a, c, .slice none 0 0, by rw [e2, e4], by rw [e1]; exact hr.below hb, by rw [e3]; exact OwnL.nil _ _ _ _, hb, fun x e => .inl e⟩
  · obtain ⟨e1, e2, e3, e4⟩ := st_yes (K := N) hx
    refine (rsplit_ok a c C N a2 c2 l w I hC hN hl hr hC0 h2 hx).mono ?_
    rintro e w' ⟨v, u, rfl, hv, hu, hb⟩
    obtain ⟨a', c', rfl, -, -, -, rd, hab⟩ := hv.shape
    rw [spC_len]
    exact ⟨a', c', u, by rw [e2, e4], by rw [e1]; exact rd, by rw [e3]; exact hu, hb, fun x e => .inr (hab x e).1⟩
end Go.Proofs.Ytnakadlhafggkaa
