/-
  Apart says yes of lists that lie each in memory of its own.
-/
import Derived.Test.YtdlcbjbcehpooaaFam
namespace Go.Proofs.Ytdlcbjbcehpooaa
open Go.RowKit

theorem Own.take {w : World} {B g n m cap : Nat} {f : Nat → Int} (h : Own w B (.slice (some ⟨g, 0, none⟩) n cap) n f) (hm : m ≤ n) : Own w B (.slice (some ⟨g, 0, none⟩) m cap) m f := by
  obtain ⟨h1, h2⟩ := h
  rcases h2 with ⟨e, _⟩ | ⟨g', cap', cur, e, hg, hcell, hnc, hmx, hs, ht⟩
  · cases e
  · cases e
    refine ⟨by rw [length_cellsOf]; omega, .inr ⟨g, cap, cur, rfl, hg, hcell, by omega, hmx, hs, ?_⟩⟩
    rw [Nat.mul_one] at ht ⊢
    refine List.ext_getElem? fun i => ?_
    by_cases hi : i < m
    · rw [List.getElem?_take_of_lt hi, cellsOf_get hi]
      have e2 : cur.toList[i]? = (cur.toList.take n)[i]? := (List.getElem?_take_of_lt (by omega)).symm
      rw [e2, ht, cellsOf_get (by omega)]
    · rw [List.getElem?_eq_none (by rw [List.length_take]; omega), List.getElem?_eq_none (by rw [length_cellsOf]; omega)]

def setFF (I j : Nat) (x : Int) (fs : Nat → Nat → Int) (i : Nat) : Nat → Int := if i = I then setF j x (fs I) else fs i
theorem Fam.store {w : World} {B N I g c : Nat} {vs : Nat → Value} {ns : Nat → Nat} {fs : Nat → Nat → Int} (h : Fam w B N vs ns fs) (hI : I < N) (e : vs I = .slice (some ⟨g, 0, none⟩) (ns I) c) (j : Nat) (x : Int) :
    Fam (w.setCell ⟨g, j, none⟩ (.int .i64 x)) B N vs ns (setFF I j x fs) := by
  refine ⟨fun i hi => ?_, h.apart⟩
  by_cases c : i = I
  · subst c
    have h1 := h.own i hi
    rw [e] at h1 ⊢
    unfold setFF; rw [if_pos rfl]
    exact h1.store j x
  · unfold setFF; rw [if_neg c]
    refine (h.own i hi).keep fun b hb => Below.heap_setCell w ⟨g, j, none⟩ _ b fun e2 => ?_
    subst e2
    exact h.apart i I hi hI c _ hb (by rw [e]; rfl)

/-- What holds all the way: the outer slice, the lists, what is old. -/
structure ApInv (w : World) (B N : Nat) (v : Value) (vs : Nat → Value) (ns : Nat → Nat) (M : Nat → Nat → Int) (wr : World) : Prop where
  out : OwnV wr B v N vs
  fam : Fam wr B N vs ns M
  apart : ∀ b, v.ownBlock = some b → ∀ i, i < N → (vs i).ownBlock ≠ some b
  base : B ≤ w.heap.size
  below : Below B w wr
theorem ApInv.keep {w wr w1 : World} {B N : Nat} {v : Value} {vs : Nat → Value} {ns : Nat → Nat} {M : Nat → Nat → Int} (h : ApInv w B N v vs ns M wr) (k : ∀ b, b < wr.heap.size → (v.ownBlock = some b ∨ ∃ i, i < N ∧ (vs i).ownBlock = some b) → w1.heap[b]? = wr.heap[b]?) (hb : Below B wr w1) : ApInv w B N v vs ns M w1 :=
  ⟨h.out.keep fun b e => k b (h.out.lt e).2 (.inl e), h.fam.keep fun i hi b e => k b ((h.fam.own i hi).lt e).2 (.inr ⟨i, hi, e⟩), h.apart, h.base, h.below.trans hb⟩
theorem ApInv.congr {w wr : World} {B N : Nat} {v : Value} {vs : Nat → Value} {ns : Nat → Nat} {M M' : Nat → Nat → Int} (h : ApInv w B N v vs ns M wr) (e : ∀ i, i < N → ∀ j, j < ns i → M i j = M' i j) : ApInv w B N v vs ns M' wr :=
  ⟨h.out, h.fam.congr e, h.apart, h.base, h.below⟩
theorem ApInv.store {w wr : World} {B N I g c : Nat} {v : Value} {vs : Nat → Value} {ns : Nat → Nat} {M : Nat → Nat → Int} (h : ApInv w B N v vs ns M wr) (hI : I < N) (e : vs I = .slice (some ⟨g, 0, none⟩) (ns I) c) (j : Nat) (x : Int) :
    ApInv w B N v vs ns (setFF I j x M) (wr.setCell ⟨g, j, none⟩ (.int .i64 x)) := by
  have hg := (h.fam.own I hI).lt (b := g) (by rw [e]; rfl)
  refine ⟨h.out.keep fun b hb => Below.heap_setCell wr ⟨g, j, none⟩ _ b fun e2 => ?_, h.fam.store hI e j x, h.apart, h.base, h.below.setCell hg.1 _⟩
  subst e2
  exact h.apart _ hb I hI (by rw [e]; rfl)

/-- The marks behind the first I lists and k places of the next. -/
def mkF (fs : Nat → Nat → Int) (I k i j : Nat) : Int := if i < I ∨ (i = I ∧ j < k) then -1000 - (i : Int) else fs i j
def mkAll (i : Nat) (_ : Nat) : Int := -1000 - (i : Int)
theorem mk_step (fs : Nat → Nat → Int) (I k : Nat) (i j : Nat) : setFF I k (-1000 - (I : Int)) (mkF fs I k) i j = mkF fs I (k + 1) i j := by
  unfold setFF
  by_cases e : i = I
  · subst e; rw [if_pos rfl]
    unfold setF mkF
    by_cases c : j = k
    · rw [if_pos c, if_pos (by omega)]
    · rw [if_neg c]
      by_cases d : j < k
      · rw [if_pos (by omega), if_pos (by omega)]
      · rw [if_neg (by omega), if_neg (by omega)]
  · rw [if_neg e]; unfold mkF
    by_cases d : i < I
    · rw [if_pos (by omega), if_pos (by omega)]
    · rw [if_neg (by omega), if_neg (by omega)]

/-- The list that is gone on with: in its own block, or in one that is newer than all (from H on). -/
def Going (wr : World) (B H : Nat) (u : Value) (n I k : Nat) (x : Value) : Prop :=
  ∃ F, Own wr B x (n + k) F ∧ ((∃ g c, u = .slice (some ⟨g, 0, none⟩) n c ∧ x = .slice (some ⟨g, 0, none⟩) (n + k) c ∧ ∀ j, j < n → F j = -1000 - (I : Int)) ∨ ∀ b, x.ownBlock = some b → H ≤ b)

theorem going_start {wr : World} {B H n I : Nat} {u : Value} (h : Own wr B u n (mkAll I)) : Going wr B H u n I 0 u := by
  obtain ⟨a, c, e, hnil, _, _, _⟩ := h.shape
  refine ⟨mkAll I, h, ?_⟩
  rcases h.2 with ⟨e2, _⟩ | ⟨g, cap, cur, e2, _⟩
  · exact .inr fun b hb => by rw [e2] at hb; cases hb
  · exact .inl ⟨g, cap, e2, e2, fun j _ => rfl⟩

/-- One more append. -/
theorem going_step {w wr w1 : World} {B H N I k : Nat} {v : Value} {vs : Nat → Value} {ns : Nat → Nat} {x x' : Value} {o : Obj} {F G : Nat → Int} (h : ApInv w B N v vs ns mkAll wr) (hI : I < N) (hH : H ≤ wr.heap.size) (hB : B ≤ wr.heap.size)
    (hlo : ∀ b, (v.ownBlock = some b ∨ ∃ i, i < N ∧ (vs i).ownBlock = some b) → b < H)
    (hx : Own wr B x (ns I + k) F) (hc : (∃ g c, vs I = .slice (some ⟨g, 0, none⟩) (ns I) c ∧ x = .slice (some ⟨g, 0, none⟩) (ns I + k) c ∧ ∀ j, j < ns I → F j = -1000 - (I : Int)) ∨ ∀ b, x.ownBlock = some b → H ≤ b)
    (hx' : Own w1 B x' (ns I + k + 1) (joinF (ns I + k) F G))
    (hD : (∃ gg cap, x = .slice (some ⟨gg, 0, none⟩) (ns I + k) cap ∧ x' = .slice (some ⟨gg, 0, none⟩) (ns I + k + 1) cap ∧ (wr.alloc o).grownBy w1 (some gg)) ∨ ((wr.alloc o).grownBy w1 none ∧ ∀ b, x'.ownBlock = some b → (wr.alloc o).heap.size ≤ b)) :
    (ApInv w B N v vs ns mkAll w1 ∧ Going w1 B H (vs I) (ns I) I (k + 1) x') ∧ H ≤ w1.heap.size := by
  refine ⟨?_, by
    rcases hD with ⟨_, _, _, _, hg⟩ | ⟨hg, _⟩ <;> (have := hg.size; simp at this; omega)⟩
  have hA : ∀ r, (wr.alloc o).grownBy w1 r → ∀ b, b < wr.heap.size → some b ≠ r → w1.heap[b]? = wr.heap[b]? := fun r hg b h1 h2 => by
    rw [hg.block b (by simp; omega) h2, Below.heap_alloc _ _ _ h1]
  rcases hD with ⟨gg, cap, e1, e2, hg⟩ | ⟨hg, hnew⟩
  · have hgx := hx.lt (b := gg) (by rw [e1]; rfl)
    have hBel : Below B wr w1 := ((Below.refl B wr).alloc hB o).grown hg (by simp; omega) fun b e => by cases e; exact hgx.1
    rcases hc with ⟨g, c, u1, u2, hF⟩ | hc
    · rw [e1] at u2
      cases u2
      have hvsI : (vs I).ownBlock = some gg := by rw [u1]; rfl
      refine ⟨⟨h.out.keep fun b e => hA _ hg b (h.out.lt e).2 fun e3 => ?_, ⟨fun i hi => ?_, h.fam.apart⟩, h.apart, h.base, h.below.trans hBel⟩, joinF (ns I + k) F G, hx', .inl ⟨gg, cap, u1, e2, fun j hj => ?_⟩⟩
      · cases e3; exact h.apart _ e I hI hvsI
      · by_cases c : i = I
        · subst c
          rw [u1]
          rw [e2] at hx'
          refine (hx'.take (m := ns i) (by omega)).congr fun j hj => ?_
          rw [joinF_lt (by omega), hF j hj]; rfl
        · refine (h.fam.own i hi).keep fun b e => hA _ hg b ((h.fam.own i hi).lt e).2 fun e3 => ?_
          cases e3; exact h.fam.apart i I hi hI c _ e hvsI
      · rw [joinF_lt (by omega), hF j hj]
    · have hgH := hc gg (by rw [e1]; rfl)
      refine ⟨h.keep (fun b h1 h2 => hA _ hg b h1 fun e3 => by cases e3; have := hlo _ h2; omega) hBel, joinF (ns I + k) F G, hx', .inr fun b e => ?_⟩
      rw [e2] at e; cases e; exact hgH
  · have hBel : Below B wr w1 := ((Below.refl B wr).alloc hB o).grown hg (by simp; omega) fun b e => by cases e
    refine ⟨h.keep (fun b h1 _ => hA _ hg b h1 (by simp)) hBel, joinF (ns I + k) F G, hx', .inr fun b e => ?_⟩
    have := hnew b e; simp at this; omega

end Go.Proofs.Ytdlcbjbcehpooaa
