/-
  The program's add: one word more in a row.
-/
import Derived.Test.YtemalidanjfmkaaNObj
namespace Go.Proofs.Ytemalidanjfmkaa
open Go.RowKit

/-- A cache's cells and its row, whatever the notes. -/
structure Rw (B : Nat) (w : World) (b g cap : Nat) (c : Cs) (R : List En) : Prop where
  o : Bk w b (coC c R.length g cap) 65
  r : OwnG 87 6 enL w B (.slice (some ⟨g, 0, none⟩) R.length cap) R
  ne : b ≠ g
  bB : B ≤ b
section
variable {B : Nat} {w w' : World} {b g cap : Nat} {c : Cs} {R : List En}
theorem Co.rw (h : Co B w b g cap c R) : Rw B w b g cap c R := ⟨h.o, h.r, h.ne, h.bB⟩
theorem Rw.keep (h : Rw B w b g cap c R) (e1 : w'.heap[b]? = w.heap[b]?) (e2 : w'.heap[g]? = w.heap[g]?) : Rw B w' b g cap c R :=
  ⟨h.o.keep e1, h.r.keep fun k ek => by cases ek; exact e2, h.ne, h.bB⟩
theorem Rw.glt (h : Rw B w b g cap c R) : B ≤ g ∧ g < w.heap.size := h.r.lt rfl
theorem Rw.blt (h : Rw B w b g cap c R) : b < w.heap.size := h.o.lt
theorem Rw.below (h : Rw B w b g cap c R) (hb : Below w.heap.size w w') : Rw B w' b g cap c R := h.keep (hb.block _ h.blt) (hb.block _ h.glt.2)
theorem Rw.bx {X : Nat → Prop} (h : Rw B w b g cap c R) (hb : Bx X w w') (h1 : ¬ X b) (h2 : ¬ X g) : Rw B w' b g cap c R := h.keep (hb.block _ h.blt h1) (hb.block _ h.glt.2 h2)
theorem Rw.row (h : Rw B w b g cap c R) (hp : 0 < R.length) : RdR w g R ∧ R.length ≤ cap ∧ cap ≤ maxLen ∧ ∀ i, w.frozen? ⟨g, i, none⟩ = false := by
  obtain ⟨g', cap', e, h1, h2, h3, h4, h5, h6⟩ := h.r.pos enL_len en0 hp
  cases e
  exact ⟨fun i hi j hj => h5 i j hi hj, h1, h2, h6⟩
theorem Rw.c4 (h : Rw B w b g cap c R) : w.cell? ⟨b, 4, none⟩ = some (.slice (some ⟨g, 0, none⟩) R.length cap) := h.o.cell 4
theorem Rw.set1 (h : Rw B w b g cap c R) {s i : Nat} (hs : s < R.length) (hi : i < 6) (u : Value) (y : En) (hy : enL y = (enL (ea R s)).set i u) : Rw B (w.setCell ⟨g, s * 6 + i, none⟩ u) b g cap c (R.set s y) := by
  have h1 := OwnG.set1 enL_len en0 h.r hs hi u y hy
  refine ⟨?_, by rw [List.length_set]; exact h1, h.ne, h.bB⟩
  rw [List.length_set]
  exact h.o.keep (Below.heap_setCell _ _ _ _ h.ne)
theorem Rw.set2 (h : Rw B w b g cap c R) {s i j : Nat} (hs : s < R.length) (hi : i < 6) (hj : j < 6) (u v : Value) (y : En) (hy : enL y = ((enL (ea R s)).set i u).set j v) : Rw B ((w.setCell ⟨g, s * 6 + i, none⟩ u).setCell ⟨g, s * 6 + j, none⟩ v) b g cap c (R.set s y) := by
  have h1 := OwnG.set2 enL_len en0 h.r hs hi hj u v y hy
  refine ⟨?_, by rw [List.length_set]; exact h1, h.ne, h.bB⟩
  rw [List.length_set]
  exact (h.o.keep (Below.heap_setCell _ _ _ _ h.ne)).keep (Below.heap_setCell _ _ _ _ h.ne)
end
/-- What add leaves. -/
def AdPost (B b g : Nat) (c : Cs) (R : List En) (a : Nat) (x : Int) (w : World) (e : Ending) (w' : World) : Prop :=
  e = .returned (.int .i64 (R.length : Int)) ∧ ∃ g' cap' bf bh, Goi R a x bf bh ∧ Fst R a (x - 1) bh ∧ Rw B w' b g' cap' c (addE R a x bf bh) ∧ Bx (fun j => j = b ∨ j = g) w w' ∧ (g' = g ∨ w.heap.size ≤ g')
theorem bx_set {X : Nat → Prop} {a w : World} (h : Bx X a w) {k : Nat} (hk : X k ∨ a.heap.size ≤ k) (i : Nat) (u : Value) : Bx X a (w.setCell ⟨k, i, none⟩ u) :=
  ⟨h.os, h.tape, h.output, by have := h.size; simpa [World.setCell] using this, fun j hj hx => (Below.heap_setCell w ⟨k, i, none⟩ u j (fun e => by
    rcases hk with hk | hk
    · exact hx (by rw [e]; exact hk)
    · have : j = k := e
      omega)).trans (h.block j hj hx)⟩
/-- Behind the append: the worlds. -/
theorem Rw.pushed {B : Nat} {w w1 w2 : World} {b g cap : Nat} {c : Cs} {R : List En} {e : En} {v : Value} {o : Obj} (h : Rw B w b g cap c R) (hb : Below w.heap.size w w1)
    (ho : OwnG 87 6 enL w2 B v (R ++ [e])) (hg : (w1.alloc o).grownBy w2 (some g)) (hat : ∀ k, v.ownBlock = some k → some g = some k ∨ k = (w1.alloc o).heap.size) :
    ∃ g' cap', v = .slice (some ⟨g', 0, none⟩) (R.length + 1) cap' ∧ w2.cell? ⟨b, 4, none⟩ = some (.slice (some ⟨g, 0, none⟩) R.length cap) ∧ w2.frozen? ⟨b, 4, none⟩ = false ∧ (g' = g ∨ w.heap.size ≤ g') ∧ Rw B (w2.setCell ⟨b, 4, none⟩ v) b g' cap' c (R ++ [e]) ∧ Bx (fun j => j = b ∨ j = g) w (w2.setCell ⟨b, 4, none⟩ v) ∧ RdR w2 g' (R ++ [e]) ∧ (∀ i, w2.frozen? ⟨g', i, none⟩ = false) ∧ b ≠ g' := by
  obtain ⟨g', cap', e', h1, h2, h3, h4, h5, h6⟩ := ho.pos enL_len en0 (by simp)
  rw [show (R ++ [e]).length = R.length + 1 by simp] at e'
  subst e'
  have hblt := h.blt
  have hz := hb.size
  have hbk : Bk w2 b (coC c R.length g cap) 65 := h.o.keep (by
    rw [hg.block b (by simp; omega) (fun q => by injection q with q; exact h.ne q), Below.heap_alloc _ _ _ (by omega), hb.block _ hblt])
  have hg' : g' = g ∨ w.heap.size ≤ g' := by
    rcases hat g' rfl with q | q
    · exact .inl (by injection q with q; exact q.symm)
    · right; simp at q; omega
  have hne : b ≠ g' := by
    rcases hg' with q | q
    · rw [q]; exact h.ne
    · omega
  refine ⟨g', cap', rfl, hbk.cell 4, hbk.frz 4, hg', ⟨?_, ?_, hne, h.bB⟩, ?_, fun i hi j hj => h5 i j hi hj, h6, hne⟩
  · have := hbk.set 4 (.slice (some ⟨g', 0, none⟩) (R.length + 1) cap')
    rw [show (R ++ [e]).length = R.length + 1 by simp]
    exact this
  · rw [show (R ++ [e]).length = R.length + 1 by simp]
    exact ho.keep fun k ek => by cases ek; exact Below.heap_setCell _ _ _ _ (fun q => hne q.symm)
  · refine Bx.setCell ?_ (p := ⟨b, 4, none⟩) (.inl rfl) _
    exact Bx.grown (Bx.alloc (Bx.of hb) o) hg fun k hk _ => .inr (by injection hk with hk; exact hk.symm)

set_option maxRecDepth 100000 in
set_option maxHeartbeats 2000000 in
theorem add_any {B : Nat} {w : World} {b g cap : Nat} {c : Cs} {R : List En} (bg : List (List Int)) (a : Nat) (x : Int) (h : Rw B w b g cap c R) (T : Tr R bg) (ha : a < R.length) (hl : R.length ≤ 1048576) (hB : B ≤ w.heap.size) :
    Calls Try.prog 58 #[.pointer (some ⟨b, 4, none⟩), .int .i64 a, .int .i64 x] w fun e w' => AdPost B b g c R a x w e w' := by
  have c4 := h.c4
  have hA := around_any R bg g cap a x w T (h.row T.pos).1 ha
  have HH := hide h
  have HT := hide T
  clear h T
  go_enter Try.func58, Try.ntmps58
  go_wp2_with fail
  refine hA.mono ?_
  rintro e w1 ⟨bf, bh, rfl, hgo, hfs, hb1⟩
  have h1 := (unhide HH).below hb1
  have c41 := h1.c4
  have HGO := hide hgo
  have HFS := hide hfs
  have hbf : bf < R.length := by
    rcases hgo with ⟨rfl, -⟩ | ⟨k, -⟩
    · exact (unhide HT).pos
    · exact k.2.1
  clear hgo hfs hA c4
  by_cases h0 : bf = 0
  · have t0 : ((bf : Int) == 0) = true := by simp [h0]
    have ha2 : a < (R ++ [(⟨a, x, 0, bh, false, 0⟩ : En)]).length := by simp; omega
    have hai : (a : Int) < ((R.length + 1 : Nat) : Int) := by omega
    have H0 := hide h0
    clear h0
    go_wp2_with (at_builtin; refine wplG_push eEnt rfl (.tmp 26) (.tmp 32) rfl B (.slice (some ⟨g, 0, none⟩) R.length cap) R rfl (h1.r.below (ballo _ _)) w1.heap.size 1 ⟨a, x, 0, bh, false, 0⟩ rfl (fun j u hj => ((Bk.new w1 (enL ⟨a, x, 0, bh, false, 0⟩) 87).cell j).trans hj) (by omega) (by unfold maxLen; omega) (by have := hb1.size; simp; omega) ?_; intro v' w2 ho2 hg2 hat2; obtain ⟨g', cap', rfl, d4, f4, hg', hrw, hbx, rr, hfz, hne⟩ := (unhide HH).pushed hb1 ho2 hg2 hat2; have hne2 : ¬ g' = b := fun q => hne q.symm; have k2 := rr.c ha2; have z2 := hfz (a * 6 + 2); have HRW := hide hrw; have HBX := hide hbx; have HG := hide hg'; clear ho2 hg2 hat2 hrw hbx hg' rr hfz)
    go_ret
    refine ⟨rfl, g', cap', bf, bh, unhide HGO, unhide HFS, ?_, ?_, unhide HG⟩
    · unfold addE
      rw [if_pos (unhide H0)]
      refine (unhide HRW).set1 ha2 (by omega) _ _ ?_
      rw [ea_left ha]; rfl
    · exact bx_set (unhide HBX) (by rcases unhide HG with q | q; exact .inl (.inr q); exact .inr q) _ _
  · have t0 : ((bf : Int) == 0) = false := by simp [h0]
    have ha2 : bf < (R ++ [(⟨a, x, 0, bh, false, 0⟩ : En)]).length := by simp; omega
    have hai : (bf : Int) < ((R.length + 1 : Nat) : Int) := by omega
    have H0 := hide h0
    clear h0
    go_wp2_with (at_builtin; refine wplG_push eEnt rfl (.tmp 26) (.tmp 32) rfl B (.slice (some ⟨g, 0, none⟩) R.length cap) R rfl (h1.r.below (ballo _ _)) w1.heap.size 1 ⟨a, x, 0, bh, false, 0⟩ rfl (fun j u hj => ((Bk.new w1 (enL ⟨a, x, 0, bh, false, 0⟩) 87).cell j).trans hj) (by omega) (by unfold maxLen; omega) (by have := hb1.size; simp; omega) ?_; intro v' w2 ho2 hg2 hat2; obtain ⟨g', cap', rfl, d4, f4, hg', hrw, hbx, rr, hfz, hne⟩ := (unhide HH).pushed hb1 ho2 hg2 hat2; have hne2 : ¬ g' = b := fun q => hne q.symm; have k2 := rr.n ha2; have z2 := hfz (bf * 6 + 3); have HRW := hide hrw; have HBX := hide hbx; have HG := hide hg'; clear ho2 hg2 hat2 hrw hbx hg' rr hfz)
    go_ret
    refine ⟨rfl, g', cap', bf, bh, unhide HGO, unhide HFS, ?_, ?_, unhide HG⟩
    · unfold addE
      rw [if_neg (unhide H0)]
      refine (unhide HRW).set1 ha2 (by omega) _ _ ?_
      rw [ea_left hbf]; rfl
    · exact bx_set (unhide HBX) (by rcases unhide HG with q | q; exact .inl (.inr q); exact .inr q) _ _

end Go.Proofs.Ytemalidanjfmkaa
