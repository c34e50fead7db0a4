/-
  The law TrimReaches, walked: it returns true, whatever the table.
-/
import Derived.Test.YtdlcbjbcehpooaaZBase
import Derived.Test.YtdlcbjbcehpooaaRReach
import Derived.Test.YtdlcbjbcehpooaaMCopy2
import Derived.Test.YtdlcbjbcehpooaaApartW
namespace Go.Proofs.Ytdlcbjbcehpooaa
open Go.RowKit

theorem rc_len (m : Mc) : (rcV m).1.length ≤ 1024 ∧ (rcV m).2.1.length ≤ 1024 ∧ ∀ i, i < (rcV m).2.1.length → ((rcV m).2.1.getD i []).length ≤ 1024 := by
  by_cases h : (mchV m).2 = 0
  · rw [rcV_ok h]
    have R := right_of h
    have I := rchV_inv R
    have hl := (rch_len R).1
    have hlen := I.len
    refine ⟨hl, by show (rchV m).2.length ≤ 1024; omega, fun i hi => ?_⟩
    have hi' : i < (rchV m).2.length := hi
    have := rinv_len I i (by omega)
    show ((rchV m).2.getD i []).length ≤ 1024
    omega
  · rw [rcV_err h]; exact ⟨Nat.zero_le _, Nat.zero_le _, fun i hi => absurd hi (Nat.not_lt_zero _)⟩
def nsJ (S : List Int) (V : List (List Int)) (i : Nat) : Nat := if i < V.length then nsV V i else S.length
def fsJ (S : List Int) (V : List (List Int)) (i : Nat) : Nat → Int := if i < V.length then fsV V i else fun j => S.getD j 0
theorem nsJ_le (S : List Int) (V : List (List Int)) (hS : S.length ≤ 100000) (hV : ∀ j, j < V.length → (V.getD j []).length ≤ 100000) (i : Nat) (_hi : i < V.length + 1) : nsJ S V i ≤ 100000 := by
  unfold nsJ
  by_cases h : i < V.length
  · rw [if_pos h]; exact hV i h
  · rw [if_neg h]; exact hS
theorem run_pushV {w : World} (ty : TypeId) (B : Nat) (v : Value) (n : Nat) (f : Nat → Value) (hown : OwnV w B v n f)
    (ad : Addr) (m c : Nat) (g : Nat → Value) (hrd : RdV w (some ad) m g) (h1 : ∀ i, i < m → ∃ a k c, g i = .slice a k c) (hbytes : (n + m) * 24 ≤ 140737488355328) (hbase : B ≤ w.heap.size) :
    ∃ v' w', (Builtin.append_ #[28, 28] ty #[v, .slice (some ad) m c]).run Try.prog w = .ok v' w' ∧ OwnV w' B v' (n + m) (joinV n f g) ∧ w.grownBy w' v.ownBlock ∧ (∀ b, v'.ownBlock = some b → v.ownBlock = some b ∨ w.heap.size ≤ b) := by
  obtain ⟨i, hi, hz0, hz1, hz2⟩ := info_parts infoInts
  obtain ⟨v', w', hrun, r1, r2, _, r4⟩ := run_append_own_at (P := Try.prog) w B 28 ty 22 i (.slice none 0 0) 1 24 Try.underlying28 hi hz0 hz1 hz2 rfl (by decide) v n (cellsV n f) hown ad m c (cellsV m g) (by rw [length_cellsV]; omega) (fun j u hj => by
      have hjm : j < m := by
        have := (List.getElem?_eq_some_iff.1 hj).1
        rwa [length_cellsV] at this
      rw [cellsV_get hjm] at hj
      obtain ⟨b, off, e, hc⟩ := hrd.at hjm
      cases e
      rw [← hj, add_at]
      exact hc j hjm) (cellsV_one h1) (by unfold maxLen; omega) hbytes hbase
  refine ⟨v', w', hrun, ?_, r2, fun b hb => ?_⟩
  · unfold OwnV; rw [← cellsV_join]; exact r1
  · rcases r4 with r4 | r4
    · exact .inl (r4 ▸ hb)
    · rw [r4] at hb; exact .inr (Nat.le_of_eq (Option.some.inj hb))
section
variable {w : World} {ops : Array Oper} {rest : List Oper} {o : Oper} {a : Act} {Q : Exit → Act → World → Prop}
/-- append(s, x), s a slice of slices of the call's own, behind a test. -/
theorem wplV_guarded (hgd : Region.wanted o (yielded ops a.tmps) = true) (s x : Operand) (ho : o.op = .call { callee := .builtin .append, args := #[s, x], argTypes := #[28, 28] })
    (B : Nat) (v : Value) (n : Nat) (f : Nat → Value) (hs : a.eval s = v) (hown : OwnV w B v n f)
    (ad : Addr) (m c : Nat) (g : Nat → Value) (hx : a.eval x = .slice (some ad) m c) (hrd : RdV w (some ad) m g) (h1 : ∀ i, i < m → ∃ a k c, g i = .slice a k c)
    (hbytes : (n + m) * 24 ≤ 140737488355328) (hbase : B ≤ w.heap.size)
    (h : ∀ v' w', OwnV w' B v' (n + m) (joinV n f g) → w.grownBy w' v.ownBlock → (∀ b, v'.ownBlock = some b → v.ownBlock = some b ∨ w.heap.size ≤ b) → wpList Try.prog ops Q rest (a.put o.dst v') w') :
    wpList Try.prog ops Q (o :: rest) a w := by
  refine wpList_step fun K hK => ?_
  rw [if_pos hgd]
  obtain ⟨v', w', hrun, r1, r2, r3⟩ := run_pushV (w := w) o.type B v n f hown ad m c g hrd h1 hbytes hbase
  unfold Oper.wp
  simp [execOp, ho, resolve, invoke, builtin, hs, hx, hrun, Result.andThen]
  exact hK _ _ (h v' w' r1 r2 r3)
end

/-- One more list behind the lists. -/
theorem behind {w w7 w8 : World} {B : Nat} {v vv v8 : Value} {vs : Nat → Value} {S : List Int} {V : List (List Int)} {o : Obj} (hL : LLs w7 B vv vs V) (hv : OwnL .i64 3 w7 B v S) (hap : ∀ b, v.ownBlock = some b → vv.ownBlock ≠ some b ∧ ∀ i, i < V.length → (vs i).ownBlock ≠ some b) (hB : B ≤ w7.heap.size) (b7 : Below w.heap.size w w7)
    (_ho : OwnV w8 B v8 (V.length + 1) (joinV V.length vs fun _ => v)) (hg : (w7.alloc o).grownBy w8 vv.ownBlock) (hat : ∀ b, v8.ownBlock = some b → vv.ownBlock = some b ∨ (w7.alloc o).heap.size ≤ b) :
    Fam w8 B (V.length + 1) (joinV V.length vs fun _ => v) (nsJ S V) (fsJ S V) ∧ (∀ b, v8.ownBlock = some b → ∀ i, i < V.length + 1 → (joinV V.length vs (fun _ => v) i).ownBlock ≠ some b) ∧ (w.heap.size ≤ B → Below w.heap.size w w8) ∧ B ≤ w8.heap.size := by
  have z : (w7.alloc o).heap.size = w7.heap.size + 1 := by simp
  have K : ∀ j, j < w7.heap.size → vv.ownBlock ≠ some j → w8.heap[j]? = w7.heap[j]? := fun j hj hne => by
    rw [hg.block j (by rw [z]; omega) (fun e => hne e.symm), Below.heap_alloc _ _ _ hj]
  have zl : ∀ i, i < V.length → ∀ b, (vs i).ownBlock = some b → b < w7.heap.size := fun i hi b e => ((hL.fam.own i hi).lt e).2
  have zv : ∀ b, v.ownBlock = some b → b < w7.heap.size := fun b e => (hv.lt e).2
  have jl : ∀ i, i < V.length → joinV V.length vs (fun _ => v) i = vs i := fun i hi => joinV_lt hi
  have je : joinV V.length vs (fun _ => v) V.length = v := joinV_ge (Nat.le_refl _)
  refine ⟨⟨fun i hi => ?_, fun i j hi hj hne b e e2 => ?_⟩, fun b e i hi e2 => ?_, fun hw => ?_, by have := hg.size; rw [z] at this; omega⟩
  · by_cases c : i < V.length
    · have h9 := (hL.fam.own i c).keep (w' := w8) fun b e => K b (zl i c b e) fun e2 => hL.ap b e2 i c e
      rw [jl i c]
      unfold nsJ fsJ
      rw [if_pos c, if_pos c]; exact h9
    · obtain rfl : i = V.length := by omega
      have h9 := own_of_list (hv.keep (w' := w8) fun b e => K b (zv b e) (hap b e).1)
      rw [je]
      unfold nsJ fsJ
      rw [if_neg c, if_neg c]; exact h9
  · by_cases c : i < V.length
    · rw [jl i c] at e
      by_cases c2 : j < V.length
      · rw [jl j c2] at e2
        exact hL.fam.apart i j c c2 hne b e e2
      · obtain rfl : j = V.length := by omega
        rw [je] at e2
        exact (hap b e2).2 i c e
    · obtain rfl : i = V.length := by omega
      rw [je] at e
      rw [jl j (by omega)] at e2
      exact (hap b e).2 j (by omega) e2
  · rw [z] at hat
    by_cases c : i < V.length
    · rw [jl i c] at e2
      rcases hat b e with e3 | e3
      · exact hL.ap b e3 i c e2
      · have := zl i c b e2; omega
    · obtain rfl : i = V.length := by omega
      rw [je] at e2
      rcases hat b e with e3 | e3
      · exact (hap b e2).1 e3
      · have := zv b e2; omega
  · exact (b7.alloc b7.size o).grown hg (by rw [z]; have := b7.size; omega) fun k e => by have := (hL.out.lt e).1; omega

set_option maxRecDepth 100000 in
set_option maxHeartbeats 1000000 in
theorem trimReaches_walk (m : Mc) (a1 : Option Addr) (c1 : Nat) (a2 : Option Addr) (c2 : Nat) (w : World) (h0 : ArgM w m a1 c1 a2 c2) :
    Calls Try.prog 3 #[mval m a1 c1 a2 c2] w fun e w' => e = .returned (.bool true) ∧ Below w.heap.size w w' := by
  unfold mval
  have B0 := Box.alloc w m a1 c1 a2 c2 24
  have b0 := ballo w (.cells #[.int .i64 m.kind, .int .i64 m.k, .int .i64 m.o, .int .i64 m.n, .slice a1 m.nx.length c1, .slice a2 m.out.length c2] 24)
  cases hbig : bigB 300 m
  rotate_left
  · go_enter Try.func3, Try.ntmps3
    go_wp2_with fail
    refine (big_any 300 m a1 c1 a2 c2 _).mono ?_
    rw [hbig]
    rintro e w1 ⟨rfl, hb1⟩
    have b1 := bstep b0 hb1
    go_wp2_with (go_at_call 10; refine (live_any _).mono ?_; rintro e wl ⟨rfl, hbl⟩)
    go_ret
    exact ⟨rfl, bstep b1 hbl⟩
  obtain ⟨n300, ln, lo⟩ := big_bounds hbig
  have mn : m.nx.length ≤ maxLen := by unfold maxLen; omega
  have mo : m.out.length ≤ maxLen := by unfold maxLen; omega
  go_enter Try.func3, Try.ntmps3
  go_wp2_with fail
  refine (big_any 300 m a1 c1 a2 c2 _).mono ?_
  rw [hbig]
  rintro e w1 ⟨rfl, hb1⟩
  have b1 := bstep b0 hb1
  have B1 := B0.below hb1
  obtain ⟨p0, p1, p2, p3, p4, p5⟩ := id B1
  clear hb1
  clear B0 b0 hbig
  go_wp2_with fail
  refine (copy_cap m a1 c1 a2 c2 w1 (h0.nx.rd.below b1) (h0.out.rd.below b1) h0.nx.nil h0.out.nil ln lo).mono ?_
  rintro e w2 ⟨d1, e1, d2, e2, rfl, r1, r2, lc, hb2⟩
  unfold mval
  have x2 := bstep hb2 (ballo w2 (.cells #[.int .i64 m.kind, .int .i64 m.k, .int .i64 m.o, .int .i64 m.n, .slice d1 m.nx.length e1, .slice d2 m.out.length e2] 24))
  have b2 := bstep b1 x2
  have B2 := B1.below x2
  have C2 := Box.alloc w2 m d1 e1 d2 e2 24
  have r1 := r1.below (ballo w2 (.cells #[.int .i64 m.kind, .int .i64 m.k, .int .i64 m.o, .int .i64 m.n, .slice d1 m.nx.length e1, .slice d2 m.out.length e2] 24))
  have r2 := r2.below (ballo w2 (.cells #[.int .i64 m.kind, .int .i64 m.k, .int .i64 m.o, .int .i64 m.n, .slice d1 m.nx.length e1, .slice d2 m.out.length e2] 24))
  obtain ⟨q0, q1, q2, q3, q4, q5⟩ := id C2
  have zw := b1.size
  have zw2 := hb2.size
  have zB : (w2.alloc (.cells #[.int .i64 m.kind, .int .i64 m.k, .int .i64 m.o, .int .i64 m.n, .slice d1 m.nx.length e1, .slice d2 m.out.length e2] 24)).heap.size = w2.heap.size + 1 := by simp
  clear p0 p1 p2 p3 p4 p5 hb2 b1 B1 x2
  go_wp2_with fail
  refine (reach_any m d1 e1 d2 e2 _ r1 r2 mn mo).mono ?_
  rintro e w3 ⟨v, vv, vs, rfl, hv, hLL, hap, hb3⟩
  have te := self_eq (rcV m).2.2
  have hlen := rc_len m
  have HCN : Hid (∃ S V E, rcV m = (S, V, E)) := ⟨_, _, _, rfl⟩
  obtain ⟨S, V, E, hcE⟩ := unhide HCN
  rw [hcE] at hv hLL hap te hlen ⊢
  have HC := hide hcE
  clear hcE HCN
  dsimp only at hv hLL hap te hlen ⊢
  obtain ⟨hS1, hV1, hVL⟩ := hlen
  have HVL := hide hVL
  rw [zB] at hv hLL
  obtain ⟨av, cv, ev, -, -, -, rv, -⟩ := hv.shape
  subst ev
  obtain ⟨al, cl, el, rl⟩ := hLL.rd
  subst el
  have z3' : w2.heap.size + 1 ≤ w3.heap.size := by have := hb3.size; rwa [zB] at this
  have b3 := bstep b2 hb3
  have B3 := B2.below hb3
  have C3 := C2.below hb3
  have r1 := r1.below hb3
  have r2 := r2.below hb3
  obtain ⟨y0, y1, y2, y3, y4, y5⟩ := id B3
  clear q0 q1 q2 q3 q4 q5 hb3 b2 B2 C2 hVL
  go_wp2_with fail
  refine (rreach_any m a1 c1 a2 c2 w3 (h0.nx.rd.below b3) (h0.out.rd.below b3) mn mo).mono ?_
  rintro e w4 ⟨v', vv', vs', rfl, hv', hLL', -, hb4⟩
  rw [unhide HC] at hv' hLL' ⊢
  dsimp only at hv' hLL' ⊢
  obtain ⟨au, cu, eu, -, -, -, ru, -⟩ := hv'.shape
  subst eu
  obtain ⟨ak, ck, ek, rk⟩ := hLL'.rd
  subst ek
  have z4' := hb4.size
  have b4 := bstep b3 hb4
  have B4 := B3.below hb4
  have C4 := C3.below hb4
  have r1 := r1.below hb4
  have r2 := r2.below hb4
  have rv := rv.below hb4
  have rl := rl.below hb4
  have hv := hv.grown hb4
  have hLL := hLL.below hb4
  clear y0 y1 y2 y3 y4 y5 hb4 b3 B3 C3 hv' hLL'
  go_wp2_with fail
  refine (same_list av au cv cu S S w4 rv ru (by unfold maxLen; omega)).mono ?_
  rw [show decide (S = S) = true from decide_eq_true rfl]
  rintro e w5 ⟨rfl, hb5⟩
  have z5' := hb5.size
  have b5 := bstep b4 hb5
  have B5 := B4.below hb5
  have C5 := C4.below hb5
  have r1 := r1.below hb5
  have r2 := r2.below hb5
  have rl := rl.below hb5
  have rk := rk.below hb5
  have hv := hv.grown hb5
  have hLL := hLL.below hb5
  clear hb5 b4 B4 C4 rv ru
  go_wp2_with fail
  refine (lists_same al ak cl ck vs vs' V w5 rl rk (by unfold maxLen; omega) (fun i hi => by have := unhide HVL i hi; unfold maxLen; omega)).mono ?_
  rintro e w6 ⟨rfl, hb6⟩
  have z6' := hb6.size
  have b6 := bstep b5 hb6
  have B6 := B5.below hb6
  have C6 := C5.below hb6
  have r1 := r1.below hb6
  have r2 := r2.below hb6
  have hv := hv.grown hb6
  have hLL := hLL.below hb6
  obtain ⟨y0, y1, y2, y3, y4, y5⟩ := id B6
  obtain ⟨x0, x1, x2, x3, x4, x5⟩ := id C6
  clear hb6 b5 B5 C5 rl rk
  go_wp2_with (go_at_call 16; refine (num_any _ _).mono ?_; rintro e w' ⟨rfl, rfl⟩)
  refine (msame_any m d1 e1 d2 e2 a1 c1 a2 c2 _ r1 r2 (h0.nx.rd.below b6) (h0.out.rd.below b6) mn mo).mono ?_
  rintro e w7 ⟨rfl, hb7⟩
  have z7' := hb7.size
  have b7 := bstep b6 hb7
  have hv := hv.grown hb7
  have hLL := hLL.below hb7
  have z7 : w2.heap.size + 1 ≤ w7.heap.size := by omega
  clear y0 y1 y2 y3 y4 y5 x0 x1 x2 x3 x4 x5 hb7 b6 B6 C6 r1 r2
  have hVx : (V.length + 1) * 24 ≤ 140737488355328 := by omega
  have HAP := hide hap
  clear hap
  go_wp2_with (at_builtin; refine wplV_guarded (by rfl) (.tmp 47) (.tmp 49) rfl (w2.heap.size + 1) _ V.length vs rfl (hLL.out.alloc _) ⟨w7.heap.size, 0, none⟩ 1 1 (fun _ => .slice av S.length cv) rfl (RdV.lit w7 1 (fun _ => .slice av S.length cv) _ (by unfold maxLen; omega) (by simp [cellsV])) (by intro i _; exact ⟨_, _, _, rfl⟩) hVx (by simp; omega) ?_; intro v8 w8 hown8 hg8 hv8; obtain ⟨a8, c8, e8, -, -, -⟩ := hown8.shape; subst e8)
  obtain ⟨F8, A8, b8⟩ := behind hLL hv (unhide HAP) z7 b7 hown8 hg8 hv8
  refine (apart_any (w2.heap.size + 1) (V.length + 1) _ _ _ _ w8 hown8 F8 A8 (by have := b8.2; omega) (by omega) (fun i hi => nsJ_le S V (by omega) (fun j hj => by have := unhide HVL j hj; omega) i hi)).mono ?_
  rintro e w9 ⟨rfl, hb9⟩
  have b9 := (b8.1 (by omega)).trans (hb9.mono (by omega))
  go_wp2_with (go_at_call 10; refine (live_any _).mono ?_; rintro e wl ⟨rfl, hbl⟩)
  go_ret
  exact ⟨rfl, bstep b9 hbl⟩

end Go.Proofs.Ytdlcbjbcehpooaa
