/-
  The object that parts states, while it goes through what was cut.
-/
import Derived.Test.YtnakadlhafggkaaQSieve
namespace Go.Proofs.Ytnakadlhafggkaa
open Go.RowKit

/-- Its blocks. -/
def SvX (z : Nat) (p : Pp) (gs : Nat) (vq vw : Value) (b : Nat) : Prop := b = z ∨ p.has gs b ∨ vq.ownBlock = some b ∨ vw.ownBlock = some b
structure SvJ (w0 w wx : World) (z : Nat) (p : Pp) (gs : Nat) (vq0 vw0 : Value) (gs' cap' : Nat) (s' : St) (vc : Value) (M : Nat) (G : Nat → Nat → Int) (vq vw : Value) (kw : Nat) (f : Nat → Bool) (W : List Int) : Prop where
  sv : Sv w0 wx z p gs' cap' s' vq vw kw f W
  oc : OwnC wx w.heap.size vc M G
  no : ∀ b, vc.ownBlock = some b → ¬ SvX z p gs' vq vw b
  nw : ∀ b, b < w.heap.size → SvX z p gs' vq vw b → SvX z p gs vq0 vw0 b
  bx : Bx (SvX z p gs vq0 vw0) w wx

section
variable {w0 w wx w1 w2 w' : World} {z : Nat} {p : Pp} {gs gs' cap cap' : Nat} {s s' : St} {vq0 vw0 vq vw vc v' : Value} {M kw : Nat} {G : Nat → Nat → Int} {f : Nat → Bool} {W l : List Int}
theorem SvJ.start (h : Sv w0 w z p gs cap s vq0 vw0 kw f W) (hp : SpPost w p gs s l w' gs' cap' s' vc G) : SvJ w0 w w' z p gs vq0 vw0 gs' cap' s' vc (mixN (tab p.n s.c) l s.K) G vq0 vw0 kw f W := by
  have hs := h.split hp
  refine ⟨hs, hp.own, fun b e hx => ?_, fun b hb hx => ?_, ⟨hp.bx.os, hp.bx.tape, hp.bx.output, hp.bx.size, fun k hk hn => hp.bx.block k hk (fun e => hn (.inr (.inl e)))⟩⟩
  · have hb := (hp.own.lt e).1
    have hn := h.no hb
    rcases hx with d | d | d | d
    · exact hn.1 d
    · rcases d with g | g | g | g | g
      · exact hn.2.1 (.inl g)
      · exact hn.2.1 (.inr (.inl g))
      · exact hn.2.1 (.inr (.inr (.inl g)))
      · exact hn.2.1 (.inr (.inr (.inr (.inl g))))
      · exact hp.vgs (g ▸ e)
    · exact hn.2.2.1 d
    · exact hn.2.2.2 d
  · rcases hx with d | d | d | d
    · exact .inl d
    · refine .inr (.inl ?_)
      rcases d with g | g | g | g | g
      · exact .inl g
      · exact .inr (.inl g)
      · exact .inr (.inr (.inl g))
      · exact .inr (.inr (.inr (.inl g)))
      · rcases hp.new with e | e
        · exact .inr (.inr (.inr (.inr (g.trans e))))
        · omega
    · exact .inr (.inr (.inl d))
    · exact .inr (.inr (.inr d))
theorem SvJ.on (h : SvJ w0 w wx z p gs vq0 vw0 gs' cap' s' vc M G vq vw kw f W) (hb : Below wx.heap.size wx w1) : SvJ w0 w w1 z p gs vq0 vw0 gs' cap' s' vc M G vq vw kw f W :=
  ⟨h.sv.on hb, h.oc.keep (fun b e => hb.block b (h.oc.lt e).2), h.no, h.nw, h.bx.trans (Bx.of (X := fun _ => False) hb) (fun _ _ e => e.elim)⟩
theorem SvJ.draws (h : SvJ w0 w wx z p gs vq0 vw0 gs' cap' s' vc M G vq vw kw f W) (n : Nat) : SvJ w0 w (wx.drewN n) z p gs vq0 vw0 gs' cap' s' vc M G vq vw kw f W :=
  ⟨h.sv.draws n, h.oc.keep (fun _ _ => rfl), h.no, h.nw, h.bx.draws n⟩
theorem SvJ.putQ {l' : List Int} (h : SvJ w0 w wx z p gs vq0 vw0 gs' cap' s' vc M G vq vw kw f W) (hb : Below wx.heap.size wx w1) (hg : w1.grownBy w2 vq.ownBlock) (q2 : Que w2 v' l') (ho : ∀ i, v'.ownBlock = some i → vq.ownBlock = some i ∨ w1.heap.size ≤ i) :
    SvJ w0 w (w2.setCell ⟨z, 1, none⟩ v') z p gs vq0 vw0 gs' cap' s' vc M G v' vw kw f l' := by
  have hs := h.sv.putQ hb hg q2 ho
  have s1 := hb.size
  have s0 := h.bx.size
  have ol : ∀ b, b < wx.heap.size → SvX z p gs' v' vw b → SvX z p gs' vq vw b := fun b hk hx => by
    rcases hx with d | d | d | d
    · exact .inl d
    · exact .inr (.inl d)
    · rcases ho b d with e | e
      · exact .inr (.inr (.inl e))
      · omega
    · exact .inr (.inr (.inr d))
  refine ⟨hs, h.oc.keep (fun b e => ?_), fun b e hx => h.no b e (ol b (h.oc.lt e).2 hx), fun b hk hx => h.nw b hk (ol b (by omega) hx), ?_⟩
  · have hl := (h.oc.lt e).2
    have hn := h.no b e
    exact (Below.heap_setCell w2 _ _ b (fun d => hn (.inl d))).trans ((hg.block b (by omega) (fun d => hn (.inr (.inr (.inl d.symm))))).trans (hb.block b hl))
  · refine ((h.bx.trans (Bx.of (X := fun _ => False) hb) (fun _ _ e => e.elim)).grown hg (fun k e hk => h.nw k hk (.inr (.inr (.inl e))))).setCell (.inl rfl) _
theorem SvJ.putW {k' : Nat} {f' : Nat → Bool} (h : SvJ w0 w wx z p gs vq0 vw0 gs' cap' s' vc M G vq vw kw f W) (hb : Below wx.heap.size wx w1) (hg : w1.grownBy w2 vw.ownBlock) (e2 : OwnE 4 w2 0 v' k' (bv f')) (ho : ∀ i, v'.ownBlock = some i → vw.ownBlock = some i ∨ i = w1.heap.size) :
    SvJ w0 w (w2.setCell ⟨z, 2, none⟩ v') z p gs vq0 vw0 gs' cap' s' vc M G vq v' k' f' W := by
  have hs := h.sv.putW hb hg e2 ho
  have s1 := hb.size
  have s0 := h.bx.size
  have ol : ∀ b, b < wx.heap.size → SvX z p gs' vq v' b → SvX z p gs' vq vw b := fun b hk hx => by
    rcases hx with d | d | d | d
    · exact .inl d
    · exact .inr (.inl d)
    · exact .inr (.inr (.inl d))
    · rcases ho b d with e | e
      · exact .inr (.inr (.inr e))
      · omega
  refine ⟨hs, h.oc.keep (fun b e => ?_), fun b e hx => h.no b e (ol b (h.oc.lt e).2 hx), fun b hk hx => h.nw b hk (ol b (by omega) hx), ?_⟩
  · have hl := (h.oc.lt e).2
    have hn := h.no b e
    exact (Below.heap_setCell w2 _ _ b (fun d => hn (.inl d))).trans ((hg.block b (by omega) (fun d => hn (.inr (.inr (.inr d.symm))))).trans (hb.block b hl))
  · refine ((h.bx.trans (Bx.of (X := fun _ => False) hb) (fun _ _ e => e.elim)).grown hg (fun k e hk => h.nw k hk (.inr (.inr (.inr e))))).setCell (.inl rfl) _
theorem SvJ.mark {g c : Nat} (h : SvJ w0 w wx z p gs vq0 vw0 gs' cap' s' vc M G vq (.slice (some ⟨g, 0, none⟩) kw c) kw f W) (j : Nat) (t : Bool) :
    SvJ w0 w (wx.setCell ⟨g, j, none⟩ (.bool t)) z p gs vq0 vw0 gs' cap' s' vc M G vq (.slice (some ⟨g, 0, none⟩) kw c) kw (fun i => if i = j then t else f i) W := by
  refine ⟨h.sv.mark j t, h.oc.keep (fun b e => Below.heap_setCell wx _ _ b (fun d => h.no b e (.inr (.inr (.inr (by subst d; rfl)))))), h.no, h.nw, ?_⟩
  by_cases hk : g < w.heap.size
  · exact h.bx.setCell (p := ⟨g, j, none⟩) (h.nw g hk (.inr (.inr (.inr rfl)))) _
  · refine h.bx.trans (c := wx.setCell ⟨g, j, none⟩ (.bool t)) (Y := fun b => b = g) (Bx.setCell (X := fun b => b = g) (p := ⟨g, j, none⟩) (Bx.refl _ wx) rfl _) (fun b hb e => by omega)
end
end Go.Proofs.Ytnakadlhafggkaa
