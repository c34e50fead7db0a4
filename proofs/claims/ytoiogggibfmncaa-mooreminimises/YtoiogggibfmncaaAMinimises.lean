/-
  The law MooreMinimises, walked: it returns true, whatever the table.
-/
import Derived.Test.YtoiogggibfmncaaK12
import Derived.Test.YtoiogggibfmncaaSMin
import Derived.Test.YtoiogggibfmncaaK6
import Derived.Test.YtoiogggibfmncaaK1
namespace Go.Proofs.Ytoiogggibfmncaa
open Go.RowKit

def duo (u v : Value) (i : Nat) : Value := if i = 0 then u else v
theorem OwnV.two (w : World) (B : Nat) (u v : Value) (hb : B ≤ w.heap.size) : OwnV (w.alloc (.cells #[u, v] 22)) B (.slice (some ⟨w.heap.size, 0, none⟩) 2 2) 2 (duo u v) := by
  unfold OwnV
  have e : cellsV 2 (duo u v) = (#[u, v] : Array Value).toList := rfl
  rw [e]
  exact World.ownsRow_lit w #[u, v] 2 hb (by unfold maxLen; simp) rfl
def nsD (c : Mc) (i : Nat) : Nat := if i = 0 then c.nx.length else c.out.length
def fsD (c : Mc) (i j : Nat) : Int := if i = 0 then c.nx.getD j 0 else c.out.getD j 0
theorem mn_len (m : Mc) : (mnV m).1.nx.length ≤ 70000 ∧ (mnV m).1.out.length ≤ 70000 := by
  by_cases h : (mchV m).2 = 0
  · rw [mnV_ok h]
    have R := (full_min (full_of h)).r
    have k1 := R.k1
    have n1 := R.n1
    have k0 := R.k0
    have n0 := R.n0
    have hpp := pp_le R
    have h1 := R.nx
    have h2 := out_len R
    show (minM m).nx.length ≤ 70000 ∧ (minM m).out.length ≤ 70000
    have h3 : (minM m).n * (minM m).k ≤ 1024 * 64 := Int.mul_le_mul n1 k1 (by omega) (by omega)
    have h4 : (minM m).n * (pp (minM m) : Int) ≤ 1024 * 64 := Int.mul_le_mul n1 (by omega) (by omega) (by omega)
    omega
  · rw [mnV_err h]; exact ⟨Nat.zero_le _, Nat.zero_le _⟩
theorem RdL.later {q : IntKind} {w0 w w' : World} {B : Nat} {a : Option Addr} {l : List Int} (h0 : RdL q w0 a l) (hs : w0.heap.size ≤ B) (h : RdL q w a l) (hb : Below B w w') : RdL q w' a l := by
  rcases h0 with h1 | ⟨b, off, rfl, hc⟩
  · exact .inl h1
  · refine .inr ⟨b, off, rfl, fun i hi => ?_⟩
    have hlt := World.block_lt_of_cell? w0 _ (hc i hi)
    obtain ⟨b2, off2, e, hc2⟩ := h.at hi
    cases e
    rw [hb.cell (by simp at hlt; simp; omega)]
    exact hc2 i hi

set_option maxRecDepth 100000 in
set_option maxHeartbeats 1000000 in
theorem mooreMinimises_walk (m : Mc) (a1 : Option Addr) (c1 : Nat) (a2 : Option Addr) (c2 : Nat) (w : World) (h0 : ArgM w m a1 c1 a2 c2) :
    Calls Try.prog 5 #[mval m a1 c1 a2 c2] w fun e w' => e = .returned (.bool true) ∧ Below w.heap.size w w' := by
  unfold mval
  have B0 := Box.alloc w m a1 c1 a2 c2 24
  have b0 := ballo w (.cells #[.int .i64 m.kind, .int .i64 m.k, .int .i64 m.o, .int .i64 m.n, .slice a1 m.nx.length c1, .slice a2 m.out.length c2] 24)
  cases hbig : bigB 60 m
  rotate_left
  · go_enter Try.func5, Try.ntmps5
    go_wp2_with fail
    refine (big_any 60 m a1 c1 a2 c2 _).mono ?_
    rw [hbig]
    rintro e w1 ⟨rfl, hb1⟩
    have b1 := bstep b0 hb1
    go_wp2_with (go_at_call 10; refine (live_any _).mono ?_; rintro e wl ⟨rfl, hbl⟩)
    go_ret
    exact ⟨rfl, bstep b1 hbl⟩
  obtain ⟨n300, ln, lo⟩ := big_bounds hbig
  have mn : m.nx.length ≤ maxLen := by unfold maxLen; omega
  have mo : m.out.length ≤ maxLen := by unfold maxLen; omega
  go_enter Try.func5, Try.ntmps5
  go_wp2_with fail
  refine (big_any 60 m a1 c1 a2 c2 _).mono ?_
  rw [hbig]
  rintro e w1 ⟨rfl, hb1⟩
  have b1 := bstep b0 hb1
  have B1 := B0.below hb1
  obtain ⟨p0, p1, p2, p3, p4, p5⟩ := id B1
  clear hb1
  clear B0 b0 hbig
  go_wp2_with fail
  refine (copy_cap m a1 c1 a2 c2 w1 (h0.nx.rd.below b1) (h0.out.rd.below b1) h0.nx.nil h0.out.nil ln lo).mono ?_
  rintro e w2 ⟨d1, e1, d2, e2, rfl, r1, r2, lc, hb2⟩
  unfold mval
  have x2 := bstep hb2 (ballo w2 (.cells #[.int .i64 m.kind, .int .i64 m.k, .int .i64 m.o, .int .i64 m.n, .slice d1 m.nx.length e1, .slice d2 m.out.length e2] 24))
  have b2 := bstep b1 x2
  have B2 := B1.below x2
  have C2 := Box.alloc w2 m d1 e1 d2 e2 24
  have r1 := r1.below (ballo w2 (.cells #[.int .i64 m.kind, .int .i64 m.k, .int .i64 m.o, .int .i64 m.n, .slice d1 m.nx.length e1, .slice d2 m.out.length e2] 24))
  have r2 := r2.below (ballo w2 (.cells #[.int .i64 m.kind, .int .i64 m.k, .int .i64 m.o, .int .i64 m.n, .slice d1 m.nx.length e1, .slice d2 m.out.length e2] 24))
  have k1' := r1
  have k2' := r2
  obtain ⟨q0, q1, q2, q3, q4, q5⟩ := id C2
  have zw := b1.size
  have zw2 := hb2.size
  clear p0 p1 p2 p3 p4 p5 hb2 b1 B1 x2
  go_wp2_with fail
  refine (minimise_any m d1 e1 d2 e2 _ r1 r2 lc mn mo).mono ?_
  rintro e w3 ⟨f1, g1, f2, g2, rfl, i1, i2, hap, hb3⟩
  have HE := hide (rfl : (mnV m).2 = (mnV m).2)
  have te := self_ne (mnV m).2
  have hlen := mn_len m
  have HCN : Hid (∃ c E, mnV m = (c, E)) := ⟨_, _, rfl⟩
  obtain ⟨c, E, hcE⟩ := unhide HCN
  rw [hcE] at i1 i2 hap te hlen ⊢
  have HC := hide hcE
  clear hcE HCN HE
  dsimp only at i1 i2 hap te hlen ⊢
  obtain ⟨_, _, E1, -, l1, l1', s1, -⟩ := i1.shape
  cases E1
  obtain ⟨_, _, E2, -, l2, l2', s2, -⟩ := i2.shape
  cases E2
  have cn : c.nx.length ≤ maxLen := by omega
  have co : c.out.length ≤ maxLen := by omega
  have x3 := bstep hb3 (ballo w3 (.cells #[.int .i64 c.kind, .int .i64 c.k, .int .i64 c.o, .int .i64 c.n, .slice f1 c.nx.length g1, .slice f2 c.out.length g2] 24))
  have z3' : w2.heap.size + 1 ≤ w3.heap.size + 1 := by have := x3.size; simp at this; omega
  have b3 := bstep b2 x3
  have B3 := B2.below x3
  have C3 := C2.below x3
  have D3 := Box.alloc w3 c f1 g1 f2 g2 24
  have zB : (w2.alloc (.cells #[.int .i64 m.kind, .int .i64 m.k, .int .i64 m.o, .int .i64 m.n, .slice d1 m.nx.length e1, .slice d2 m.out.length e2] 24)).heap.size = w2.heap.size + 1 := by simp
  rw [zB] at i1 i2
  have i1 := (i1.alloc (.cells #[.int .i64 c.kind, .int .i64 c.k, .int .i64 c.o, .int .i64 c.n, .slice f1 c.nx.length g1, .slice f2 c.out.length g2] 24))
  have i2 := (i2.alloc (.cells #[.int .i64 c.kind, .int .i64 c.k, .int .i64 c.o, .int .i64 c.n, .slice f1 c.nx.length g1, .slice f2 c.out.length g2] 24))
  have r1 := r1.below x3
  have r2 := r2.below x3
  have s1 := s1.below (ballo w3 (.cells #[.int .i64 c.kind, .int .i64 c.k, .int .i64 c.o, .int .i64 c.n, .slice f1 c.nx.length g1, .slice f2 c.out.length g2] 24))
  have s2 := s2.below (ballo w3 (.cells #[.int .i64 c.kind, .int .i64 c.k, .int .i64 c.o, .int .i64 c.n, .slice f1 c.nx.length g1, .slice f2 c.out.length g2] 24))
  obtain ⟨y0, y1, y2, y3, y4, y5⟩ := id B3
  clear q0 q1 q2 q3 q4 q5 hb3 B2 b2 x3 C2
  unfold mval
  go_wp2_with fail
  refine (rminimise_any m a1 c1 a2 c2 _ (h0.nx.rd.below b3) (h0.out.rd.below b3) mn mo).mono ?_
  rw [unhide HC]
  rintro e w4 ⟨h1, k1, h2, k2, rfl, j1, j2, -, hb4⟩
  dsimp only at j1 j2 ⊢
  obtain ⟨_, _, E1, -, -, -, t1, -⟩ := j1.shape
  cases E1
  obtain ⟨_, _, E2, -, -, -, t2, -⟩ := j2.shape
  cases E2
  have x4 := bstep hb4 (ballo w4 (.cells #[.int .i64 c.kind, .int .i64 c.k, .int .i64 c.o, .int .i64 c.n, .slice h1 c.nx.length k1, .slice h2 c.out.length k2] 24))
  have z4' : w3.heap.size + 1 ≤ w4.heap.size + 1 := by have := x4.size; simp at this; omega
  have b4 := bstep b3 x4
  have B4 := B3.below x4
  have C4 := C3.below x4
  have D4 := D3.below x4
  have r1 := r1.below x4
  have r2 := r2.below x4
  have s1 := s1.below x4
  have s2 := s2.below x4
  have i1 := i1.grown x4
  have i2 := i2.grown x4
  have t1 := t1.below (ballo w4 (.cells #[.int .i64 c.kind, .int .i64 c.k, .int .i64 c.o, .int .i64 c.n, .slice h1 c.nx.length k1, .slice h2 c.out.length k2] 24))
  have t2 := t2.below (ballo w4 (.cells #[.int .i64 c.kind, .int .i64 c.k, .int .i64 c.o, .int .i64 c.n, .slice h1 c.nx.length k1, .slice h2 c.out.length k2] 24))
  obtain ⟨z0, z1, z2', z3, z4, z5⟩ := Box.alloc w4 c h1 k1 h2 k2 24
  obtain ⟨q0, q1, q2, q3, q4, q5⟩ := id D4
  clear y0 y1 y2 y3 y4 y5 hb4 B3 b3 x4 C3 D3 j1 j2
  unfold mval
  go_wp2_with fail
  refine (msame_any c f1 g1 f2 g2 h1 k1 h2 k2 _ s1 s2 t1 t2 cn co).mono ?_
  rintro e w5 ⟨rfl, hb5⟩
  have z5' : w4.heap.size + 1 ≤ w5.heap.size := by have := hb5.size; simp at this; omega
  have b5 := bstep b4 hb5
  have B5 := B4.below hb5
  have C5 := C4.below hb5
  have D5 := D4.below hb5
  have r1 := r1.below hb5
  have r2 := r2.below hb5
  have i1 := i1.grown hb5
  have i2 := i2.grown hb5
  obtain ⟨y0, y1, y2, y3, y4, y5⟩ := id D5
  clear q0 q1 q2 q3 q4 q5 z0 z1 z2' z3 z4 z5 hb5 B4 b4 C4 D4 t1 t2 s1 s2
  have zz5 : w2.heap.size + 1 ≤ w5.heap.size := by have h7 := z3'; have h8 := z4'; have h9 := z5'; omega
  have O := OwnV.two w5 (w2.heap.size + 1) (.slice f1 c.nx.length g1) (.slice f2 c.out.length g2) zz5
  have F : Fam (w5.alloc (.cells #[.slice f1 c.nx.length g1, .slice f2 c.out.length g2] 22)) (w2.heap.size + 1) 2 (duo (.slice f1 c.nx.length g1) (.slice f2 c.out.length g2)) (nsD c) (fsD c) := by
    refine ⟨fun i hi => ?_, fun i j hi hj hne b hb hb' => ?_⟩
    · rcases (show i = 0 ∨ i = 1 by omega) with rfl | rfl
      · exact own_of_list (i1.alloc _)
      · exact own_of_list (i2.alloc _)
    · rcases (show i = 0 ∧ j = 1 ∨ i = 1 ∧ j = 0 by omega) with ⟨rfl, rfl⟩ | ⟨rfl, rfl⟩
      · exact hap b hb hb'
      · exact hap b hb' hb
  have A : ∀ b, (Value.slice (some ⟨w5.heap.size, 0, none⟩) 2 2).ownBlock = some b → ∀ i, i < 2 → (duo (.slice f1 c.nx.length g1) (.slice f2 c.out.length g2) i).ownBlock ≠ some b := by
    intro b hb i hi e
    have hbe : w5.heap.size = b := Option.some.inj hb
    rcases (show i = 0 ∨ i = 1 by omega) with rfl | rfl
    · have q := (i1.lt e).2; omega
    · have q := (i2.lt e).2; omega
  have HO := hide O
  have HF := hide F
  have HA := hide A
  have HN : Hid (∀ i, i < 2 → nsD c i ≤ 100000) := fun i _ => by unfold nsD; split <;> omega
  have x5 := ballo w5 (.cells #[.slice f1 c.nx.length g1, .slice f2 c.out.length g2] 22)
  have B6 := B5.below x5
  have C6 := C5.below x5
  have r1 := r1.below x5
  have r2 := r2.below x5
  have b6 := bstep b5 x5
  clear O F A i1 i2 B5 C5 D5 b5 hap
  go_wp2_with (go_at_call 15; refine (num_any _ _).mono ?_; rintro e w' ⟨rfl, rfl⟩)
  refine (apart_any (w2.heap.size + 1) 2 _ _ _ _ _ (unhide HO) (unhide HF) (unhide HA) (by simp; omega) (by decide) (unhide HN)).mono ?_
  rintro e w7 ⟨rfl, hb7⟩
  have b7 := b6.trans (hb7.mono (by omega))
  have B7 := box_on B6 hb7 (by omega)
  have C7 := box_on C6 hb7 (by omega)
  have r1 := RdL.later k1' (by omega) r1 hb7
  have r2 := RdL.later k2' (by omega) r2 hb7
  obtain ⟨z0, z1, z2', z3, z4, z5⟩ := id B7
  obtain ⟨q0, q1, q2, q3, q4, q5⟩ := id C7
  clear hb7 B6 C6 HO HF HA HN b6 y0 y1 y2 y3 y4 y5
  go_wp2_with fail
  refine (msame_any m d1 e1 d2 e2 a1 c1 a2 c2 w7 r1 r2 (h0.nx.rd.below b7) (h0.out.rd.below b7) mn mo).mono ?_
  rintro e w8 ⟨rfl, hb8⟩
  have b8 := bstep b7 hb8
  go_wp2_with (go_at_call 10; refine (live_any _).mono ?_; rintro e wl ⟨rfl, hbl⟩)
  go_ret
  exact ⟨rfl, bstep b8 hbl⟩

end Go.Proofs.Ytoiogggibfmncaa
