/-
  What the program's keep holds on its way: the row, the path, the notes.
-/
import Derived.Test.YtemalidanjfmkaaNAdd
import Derived.Test.YtemalidanjfmkaaNNote
import Derived.Test.YtemalidanjfmkaaK1
namespace Go.Proofs.Ytemalidanjfmkaa
open Go.RowKit

theorem step_call3 {ops : Array Oper} {o : Oper} {a : Act} {w : World} {K : Act → World → Prop} {Q : Exit → Act → World → Prop} {F : Prop}
    (hg : o.guard = none) (f : Nat) (x y z : Operand) (ts : Array TypeId) (ho : o.op = .call { callee := .value (.func f), args := #[x, y, z], argTypes := ts })
    {fn : Func} (hfn : Try.prog.funcs[f]? = some fn) (hname : (fn.name == "runtime.NumGoroutine") = false) (hbody : fn.body.isNone = false)
    (u v t : Value) (hx : a.eval x = u) (hy : a.eval y = v) (hz : a.eval z = t) {R : Ending → World → Prop} (hc : Calls Try.prog f #[u, v, t] w R) (h : ∀ e w', R e w' → ∃ v, e = .returned v ∧ K (a.put o.dst v) w') :
    if Region.wanted o (yielded ops a.tmps) = true then Oper.wp Try.prog o a w K Q else F :=
  step_call hg f #[x, y, z] ts ho hfn hname hbody #[u, v, t] (by simp [hx, hy, hz]) hc h

/-- The row grown so far, and the path. -/
structure Kp (B Bp : Nat) (w0 w : World) (b g0 : Nat) (vp0 : Value) (c : Cs) (R0 : List En) (wd : List Int) (g cap : Nat) (R : List En) (P : List Nat) (vp : Value) (i : Nat) : Prop where
  rw : Rw B w b g cap c R
  tr : Tr R (frs wd i c.bg)
  pth : Pth (frs wd i c.bg) wd P
  pl : P.length = i
  op : OwnL .i64 3 w Bp vp (ni P)
  dp : ∀ k, vp.ownBlock = some k → k ≠ b ∧ k ≠ g
  old : ∀ y, y < R0.length → y < R.length ∧ (ea R y).kn = (ea R0 y).kn ∧ (ea R y).la = (ea R0 y).la
  new : ∀ y, R0.length ≤ y → y < R.length → (ea R y).kn = false
  bx : Bx (fun j => j = b ∨ j = g0 ∨ vp0.ownBlock = some j) w0 w
  hg : g = g0 ∨ w0.heap.size ≤ g
  hp : ∀ k, vp.ownBlock = some k → vp0.ownBlock = some k ∨ w0.heap.size ≤ k
section
variable {B Bp : Nat} {w0 w w1 w2 : World} {b g0 : Nat} {vp0 : Value} {c : Cs} {R0 : List En} {wd : List Int} {g cap : Nat} {R : List En} {P P0 : List Nat} {vp : Value} {i : Nat}
theorem Kp.drew (h : Kp B Bp w0 w b g0 vp0 c R0 wd g cap R P vp i) : Kp B Bp w0 w.drew b g0 vp0 c R0 wd g cap R P vp i :=
  ⟨h.rw.keep rfl rfl, h.tr, h.pth, h.pl, h.op.keep fun _ _ => rfl, h.dp, h.old, h.new, h.bx.drew, h.hg, h.hp⟩
/-- Behind add. -/
structure Ka (B Bp : Nat) (w0 w w1 : World) (b g0 : Nat) (vp0 : Value) (c : Cs) (R0 : List En) (wd : List Int) (R : List En) (P : List Nat) (vp : Value) (i : Nat) (g1 cap1 : Nat) (R1 : List En) : Prop where
  rw : Rw B w1 b g1 cap1 c R1
  tr : Tr R1 (frs wd (i + 1) c.bg)
  pth : Pth (frs wd (i + 1) c.bg) wd (P ++ [R.length])
  op : OwnL .i64 3 w1 Bp vp (ni P)
  dp : ∀ k, vp.ownBlock = some k → k ≠ b ∧ k ≠ g1
  old : ∀ y, y < R0.length → y < R1.length ∧ (ea R1 y).kn = (ea R0 y).kn ∧ (ea R1 y).la = (ea R0 y).la
  new : ∀ y, R0.length ≤ y → y < R1.length → (ea R1 y).kn = false
  bx : Bx (fun j => j = b ∨ j = g0 ∨ vp0.ownBlock = some j) w0 w1
  hg : g1 = g0 ∨ w0.heap.size ≤ g1
  hp : ∀ k, vp.ownBlock = some k → vp0.ownBlock = some k ∨ w0.heap.size ≤ k
  pl : P.length = i
theorem Kp.added (h : Kp B Bp w0 w b g0 vp0 c R0 wd g cap R P vp i) (T0 : Tr R0 c.bg) (hP0 : PthE c.bg wd P0) (h1 : P0.length ≤ i) (h2 : i ≤ wd.length) (hsy : ∀ j, j < wd.length → 0 ≤ wd.getD j 0 ∧ wd.getD j 0 < 64) {e : Ending}
    (hA : AdPost B b g c R (P.getD (i - 1) 0) (wd.getD (i - 1) 0) w e w1) : e = .returned (.int .i64 (R.length : Int)) ∧ ∃ g1 cap1 R1, Ka B Bp w0 w w1 b g0 vp0 c R0 wd R P vp i g1 cap1 R1 := by
  obtain ⟨he, g1, cap1, bf, bh, hgo, hfs, hrw, hbx, hg1⟩ := hA
  have hi0 := hP0.1.pos
  have hpl := h.pl
  obtain ⟨p1, p2⟩ := h.pth.at' (i - 1) (by omega)
  have ha : P.getD (i - 1) 0 < R.length := by rw [h.tr.len]; exact p1
  have hnew : wa (frs wd i c.bg) (P.getD (i - 1) 0) ++ [wd.getD (i - 1) 0] = wd.take i := by
    rw [p2, ← take_next (by omega), show i - 1 + 1 = i by omega]
  have hno := frs_out T0 hP0 h1 h2
  have hnx := frs_next T0 hP0 h1 h2
  have hb : bf < R.length := by
    rcases hgo with ⟨rfl, -⟩ | ⟨k, -⟩
    · exact h.tr.pos
    · exact k.2.1
  have T1 := h.tr.add ha hgo hfs (by rw [hnew]; exact hno) (hsy (i - 1) (by omega)).1 (hsy (i - 1) (by omega)).2
  rw [hnew, ← hnx] at T1
  have hlen := h.tr.len
  refine ⟨he, g1, cap1, _, hrw, T1, ?_, ?_, ?_, ?_, ?_, ?_, ?_, h.hp, h.pl⟩
  · rw [hnx]
    have hm : Pth (frs wd i c.bg ++ [wd.take i]) wd P := h.pth.mono fun j hj => ⟨by simp; omega, wa_left hj⟩
    refine hm.snoc (by omega) (by simp; omega) ?_
    rw [hlen, wa_new, hpl]
  · exact h.op.bx hbx fun k ek => by
      have := h.dp k ek
      rintro (q | q)
      · exact this.1 q
      · exact this.2 q
  · intro k ek
    refine ⟨(h.dp k ek).1, fun q => ?_⟩
    rcases hg1 with r | r
    · exact (h.dp k ek).2 (q.trans r)
    · have := (h.op.lt ek).2; omega
  · intro y hy
    have h3 := h.old y hy
    have h4 := addE_old (x := wd.getD (i - 1) 0) (bh := bh) ha hb h3.1
    exact ⟨by rw [addE_len]; omega, by rw [h4.2.2.1]; exact h3.2.1, by rw [h4.2.2.2.1]; exact h3.2.2⟩
  · intro y hy hy2
    rw [addE_len] at hy2
    by_cases hq : y < R.length
    · rw [(addE_old (x := wd.getD (i - 1) 0) (bh := bh) ha hb hq).2.2.1]; exact h.new y hy hq
    · obtain rfl : y = R.length := by omega
      rw [addE_new ha hb]
  · refine h.bx.trans hbx fun j hj q => ?_
    rcases q with q | q
    · exact .inl q
    · rcases h.hg with r | r
      · exact .inr (.inl (q.trans r))
      · omega
  · rcases hg1 with r | r
    · rw [r]; exact h.hg
    · right; have := h.bx.size; omega
/-- Behind the append to the path. -/
theorem Ka.pushed {g1 cap1 : Nat} {R1 : List En} {v : Value} {o : Obj} (h : Ka B Bp w0 w w1 b g0 vp0 c R0 wd R P vp i g1 cap1 R1) (ho : OwnL .i64 3 w2 Bp v (ni P ++ [(R.length : Int)])) (hgr : (w1.alloc o).grownBy w2 vp.ownBlock)
    (hat : ∀ k, v.ownBlock = some k → vp.ownBlock = some k ∨ k = (w1.alloc o).heap.size) : Kp B Bp w0 w2 b g0 vp0 c R0 wd g1 cap1 R1 (P ++ [R.length]) v (i + 1) := by
  have kk : ∀ k, k < w1.heap.size → vp.ownBlock ≠ some k → w2.heap[k]? = w1.heap[k]? := fun k hk hne => by
    rw [hgr.block k (by simp; omega) (fun q => hne q.symm), Below.heap_alloc _ _ _ hk]
  have hb1 := h.rw.blt
  have hg1 := h.rw.glt.2
  refine ⟨h.rw.keep (kk b hb1 fun q => (h.dp b q).1 rfl) (kk g1 hg1 fun q => (h.dp g1 q).2 rfl), h.tr, h.pth, by simp [h.pl], by rw [ni_snoc]; exact ho, ?_, h.old, h.new, ?_, h.hg, ?_⟩
  · intro k ek
    rcases hat k ek with q | q
    · exact h.dp k q
    · simp at q; exact ⟨by omega, by omega⟩
  · refine Bx.grown (h.bx.alloc o) hgr fun k hk hlt => ?_
    rcases h.hp k hk with q | q
    · exact .inr (.inr q)
    · omega
  · intro k ek
    rcases hat k ek with q | q
    · exact h.hp k q
    · right; simp at q; have := h.bx.size; omega
/-- The second loop: notes set so far. -/
structure Knk (B : Nat) (w0 w : World) (b g0 : Nat) (vp0 : Value) (c : Cs) (R0 : List En) (wd out : List Int) (g cap : Nat) (R : List En) (P : List Nat) (i : Nat) : Prop where
  rw : Rw B w b g cap c R
  nt : Nts c R0 wd out P i R
  bx : Bx (fun j => j = b ∨ j = g0 ∨ vp0.ownBlock = some j) w0 w
  hg : g = g0 ∨ w0.heap.size ≤ g
theorem Kp.notes {out : List Int} (h : Kp B Bp w0 w b g0 vp0 c R0 wd g cap R P vp (wd.length + 1)) : Knk B w0 w b g0 vp0 c R0 wd out g cap R P 0 :=
  ⟨h.rw, ⟨h.tr, fun y hy _ => ⟨fun hq => (h.old y hq).2, fun hq => h.new y hq hy⟩, fun t ht => by omega⟩, h.bx, h.hg⟩
theorem Knk.drew {out : List Int} (h : Knk B w0 w b g0 vp0 c R0 wd out g cap R P i) : Knk B w0 w.drew b g0 vp0 c R0 wd out g cap R P i := ⟨h.rw.keep rfl rfl, h.nt, h.bx.drew, h.hg⟩
theorem Knk.skip {out : List Int} (h : Knk B w0 w b g0 vp0 c R0 wd out g cap R P i) (hn : (nta c.kind wd out i).1 = false) : Knk B w0 w b g0 vp0 c R0 wd out g cap R P (i + 1) :=
  ⟨h.rw, ⟨h.nt.tr, fun y hy hq => h.nt.old y hy fun t ht e => hq t (by omega) e, fun t ht hk => by
    by_cases e : t = i
    · subst e; rw [hn] at hk; cases hk
    · exact h.nt.new t (by omega) hk⟩, h.bx, h.hg⟩
theorem Knk.note {out : List Int} (h : Knk B w0 w b g0 vp0 c R0 wd out g cap R P i) (hp : Pth (frsV c wd) wd P) (hi : i < P.length) (hn : (nta c.kind wd out i).1 = true) (u v : Value) (hu : u = .bool (nta c.kind wd out i).1) (hv : v = .int .i64 (nta c.kind wd out i).2) :
    ∃ R', Knk B w0 ((w.setCell ⟨g, P.getD i 0 * 6 + 4, none⟩ u).setCell ⟨g, P.getD i 0 * 6 + 5, none⟩ v) b g0 vp0 c R0 wd out g cap R' P (i + 1) ∧ R'.length = R.length := by
  obtain ⟨p1, p2⟩ := hp.at' i hi
  have ha : P.getD i 0 < R.length := by rw [h.nt.tr.len]; exact p1
  have inj : ∀ t, t < P.length → P.getD t 0 = P.getD i 0 → t = i := fun t ht e => by
    have q := (hp.at' t ht).2
    rw [e, p2] at q
    have := congrArg List.length q
    have hle := hp.le
    simp at this
    omega
  have hle := hp.le
  subst hu
  subst hv
  refine ⟨R.set (P.getD i 0) { ea R (P.getD i 0) with kn := (nta c.kind wd out i).1, la := (nta c.kind wd out i).2 }, ⟨h.rw.set2 ha (by omega) (by omega) _ _ _ rfl, ⟨?_, fun y hy hq => ?_, fun t ht hk => ?_⟩, ?_, h.hg⟩, by simp⟩
  · refine h.nt.tr.same (by simp) fun y hy => ?_
    rw [ea_set ha]
    by_cases e : y = P.getD i 0
    · subst e; rw [if_pos rfl]; exact ⟨rfl, rfl, rfl, rfl⟩
    · rw [if_neg e]; exact ⟨rfl, rfl, rfl, rfl⟩
  · rw [List.length_set] at hy
    have hyn : y ≠ P.getD i 0 := fun e => by
      have := hq i (by omega) e.symm
      rw [hn] at this; cases this
    rw [ea_set ha, if_neg hyn]
    exact h.nt.old y hy fun t ht e => hq t (by omega) e
  · by_cases e : t = i
    · subst e; rw [ea_set ha, if_pos rfl]; exact ⟨rfl, rfl⟩
    · by_cases htp : P.getD t 0 = P.getD i 0
      · by_cases htl : t < P.length
        · exact absurd (inj t htl htp) e
        · omega
      · rw [ea_set ha, if_neg htp]; exact h.nt.new t (by omega) hk
  · have hX : ∀ j, j = g → (j = b ∨ j = g0 ∨ vp0.ownBlock = some j) ∨ w0.heap.size ≤ j := fun j e => by
      rcases h.hg with q | q
      · exact .inl (.inr (.inl (e.trans q)))
      · right; omega
    exact bx_set (bx_set h.bx (hX g rfl) _ _) (hX g rfl) _ _
end

end Go.Proofs.Ytemalidanjfmkaa
