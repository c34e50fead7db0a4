/-
  What beside of differ returns: two machines as one.
-/
import Derived.Test.YtagoilabphmdfaaK16
import Derived.Test.YtagoilabphmdfaaK19
import Derived.Test.YtagoilabphmdfaaK1
import Derived.Test.YtagoilabphmdfaaK21
import Derived.Test.YtagoilabphmdfaaZFacts
import Derived.BigRegion
namespace Go.Proofs.Ytagoilabphmdfaa
open Go.RowKit

/-- What beside leaves. -/
def BesPost (a b : Mc) (w : World) (e : Ending) (w' : World) : Prop :=
  ∃ f1 g1 f2 g2, e = .returned (mval (uniM a b) f1 g1 f2 g2) ∧ RdL .i64 w' f1 (uniM a b).nx ∧ RdL .i64 w' f2 (uniM a b).out ∧ Below w.heap.size w w'
def shF (P : Nat) (d : Int) (J : List Int) (t i : Nat) : Int := if P ≤ i ∧ i < t then J.getD i 0 + d else J.getD i 0
theorem shF_end {l r : List Int} {d : Int} : ∀ i, i < (l ++ r).length → shF l.length d (l ++ r) (l ++ r).length i = (l ++ r.map (fun y => y + d)).getD i 0 := fun i hi => by
  unfold shF
  by_cases c : l.length ≤ i
  · obtain ⟨P, rfl⟩ : ∃ P, i = l.length + P := ⟨i - l.length, by omega⟩
    rw [List.length_append] at hi
    rw [if_pos ⟨c, by rw [List.length_append]; exact hi⟩, gd_rightP, gd_rightP, gd_mapP (by omega)]
  · rw [if_neg (fun h => c h.1), gd_left _ (by omega), gd_left _ (by omega)]
theorem shF_step {P t : Nat} {d : Int} {J : List Int} (h : P ≤ t) (i : Nat) : setF t (J.getD t 0 + d) (shF P d J t) i = shF P d J (t + 1) i := by
  unfold setF shF
  by_cases c : i = t
  · rw [if_pos c, if_pos (by omega), c]
  · rw [if_neg c]
    by_cases e : P ≤ i ∧ i < t
    · rw [if_pos e, if_pos (by omega)]
    · rw [if_neg e, if_neg (by omega)]
theorem rd_some {w : World} {a : Option Addr} {l : List Int} (h : RdL .i64 w a l) (hl : 0 < l.length) {c : Nat} : a = none → l.length = 0 ∧ c = 0 := fun e => by
  obtain ⟨b, off, e2, _⟩ := h.at hl
  rw [e] at e2; cases e2

theorem setC_other (u : World) (b : Nat) {i j : Nat} (v : Value) (hi : i ≠ j) : (u.setCell ⟨b, i, none⟩ v).cell? ⟨b, j, none⟩ = u.cell? ⟨b, j, none⟩ :=
  World.cell?_setCell_other (w := u) (a := ⟨b, i, none⟩) (b := ⟨b, j, none⟩) (v := v) (h := fun e => hi (by injection e with _ e2 _))
set_option maxRecDepth 100000 in
set_option maxHeartbeats 4000000 in
theorem beside_any (a b : Mc) (a1 : Option Addr) (c1 : Nat) (a2 : Option Addr) (c2 : Nat) (d1 : Option Addr) (e1 : Nat) (d2 : Option Addr) (e2 : Nat) (w : World) (R : Right a) (Q : Right b) (hn : a.n + b.n ≤ 1024) (h1 : RdL .i64 w a1 a.nx) (h2 : RdL .i64 w a2 a.out) (g1 : RdL .i64 w d1 b.nx) (g2 : RdL .i64 w d2 b.out) (ln : a.nx.length ≤ 70000) (lo : a.out.length ≤ 70000) (kn : b.nx.length ≤ 70000) (ko : b.out.length ≤ 70000) :
    Calls Try.prog 57 #[mval a a1 c1 a2 c2, mval b d1 e1 d2 e2] w fun e w' => BesPost a b w e w' := by
  have an0 := R.n0
  have bn0 := Q.n0
  have la : 0 < a.nx.length := by
    have h3 := R.nx
    have h4 : 1 * 1 ≤ a.n * a.k := Int.mul_le_mul R.n0 R.k0 (by omega) (by omega)
    omega
  have lb : 0 < b.nx.length := by
    have h3 := Q.nx
    have h4 : 1 * 1 ≤ b.n * b.k := Int.mul_le_mul Q.n0 Q.k0 (by omega) (by omega)
    omega
  have oa : 0 < a.out.length := by
    rcases R.kd with c | c
    · have := R.outD c; omega
    · have := R.outM c; have := R.nx; omega
  have ob : 0 < b.out.length := by
    rcases Q.kd with c | c
    · have := Q.outD c; omega
    · have := Q.outM c; have := Q.nx; omega
  obtain ⟨W4, hW4⟩ : ∃ W4, W4 = (((w.alloc (.cells #[.int .i64 a.kind, .int .i64 a.k, .int .i64 a.o, .int .i64 a.n, .slice a1 a.nx.length c1, .slice a2 a.out.length c2] 24)).alloc (.cells #[.int .i64 b.kind, .int .i64 b.k, .int .i64 b.o, .int .i64 b.n, .slice d1 b.nx.length e1, .slice d2 b.out.length e2] 24)).alloc (.cells #[.int .i64 0, .int .i64 0, .int .i64 0, .int .i64 0, .slice none 0 0, .slice none 0 0] 24)).alloc (.cells #[.int .i64 a.kind, .int .i64 a.k, .int .i64 a.o, .int .i64 (a.n + b.n), .slice none 0 0, .slice none 0 0] 24) := ⟨_, rfl⟩
  have A4 : W4.heap[w.heap.size]? = some (.cells #[.int .i64 a.kind, .int .i64 a.k, .int .i64 a.o, .int .i64 a.n, .slice a1 a.nx.length c1, .slice a2 a.out.length c2] 24) ∧ W4.heap[w.heap.size + 1]? = some (.cells #[.int .i64 b.kind, .int .i64 b.k, .int .i64 b.o, .int .i64 b.n, .slice d1 b.nx.length e1, .slice d2 b.out.length e2] 24) ∧ W4.heap[w.heap.size + 1 + 1]? = some (.cells #[.int .i64 0, .int .i64 0, .int .i64 0, .int .i64 0, .slice none 0 0, .slice none 0 0] 24) ∧ W4.heap[w.heap.size + 1 + 1 + 1]? = some (.cells #[.int .i64 a.kind, .int .i64 a.k, .int .i64 a.o, .int .i64 (a.n + b.n), .slice none 0 0, .slice none 0 0] 24) := by
    rw [hW4]
    exact al4 w _ _ _ _
  have b4 : Below w.heap.size w W4 := by rw [hW4]; exact bl4 w _ _ _ _
  have z4 : W4.heap.size = w.heap.size + 1 + 1 + 1 + 1 := by rw [hW4]; exact siz4 w _ _ _ _
  have CB : ∀ (wz : World), wz.heap[w.heap.size]? = W4.heap[w.heap.size]? → wz.heap[w.heap.size + 1]? = W4.heap[w.heap.size + 1]? → Box wz w.heap.size a a1 c1 a2 c2 ∧ Box wz (w.heap.size + 1) b d1 e1 d2 e2 := fun wz h3 h4 => by
    rw [A4.1] at h3
    rw [A4.2.1] at h4
    constructor
    · constructor <;> (unfold World.cell?; rw [h3]; rfl)
    · constructor <;> (unfold World.cell?; rw [h4]; rfl)
  obtain ⟨W5, hW5⟩ : ∃ W5, W5 = W4.alloc (.cells #[.slice a1 a.nx.length c1, .slice d1 b.nx.length e1] 22) := ⟨_, rfl⟩
  have b5 : Below W4.heap.size W4 W5 := by rw [hW5]; exact ballo _ _
  have V5 : RdV W5 (some ⟨W4.heap.size, 0, none⟩) 2 (fun i => if i = 0 then .slice a1 a.nx.length c1 else .slice d1 b.nx.length e1) := by
    rw [hW5]; exact RdV.lit W4 2 _ _ (by unfold maxLen; omega) rfl
  have HJ := hide (joinL_any (some ⟨W4.heap.size, 0, none⟩) 2 2 _ (fun i => if i = 0 then a.nx else b.nx) (fun i => if i = 0 then c1 else e1) (fun i => if i = 0 then a1 else d1) W5 V5 (by omega) (fun i hi => by
    match i, hi with
    | 0, _ => exact ⟨rfl, h1.below (bstep b4 b5), rd_some h1 la, by show a.nx.length ≤ _; omega⟩
    | 1, _ => exact ⟨rfl, g1.below (bstep b4 b5), rd_some g1 lb, by show b.nx.length ≤ _; omega⟩))
  have e4 : catL (fun i => if i = 0 then a.nx else b.nx) 2 = a.nx ++ b.nx := rfl
  obtain ⟨J, hJ⟩ : ∃ J, J = a.nx ++ b.nx := ⟨_, rfl⟩
  have HJJ := hide hJ
  have hJl2 : J.length = a.nx.length + b.nx.length := by rw [hJ]; simp
  have HL6 := hide hJl2
  rw [e4, ← hJ] at HJ
  have HST := hide (fun (i : Nat) (h : i < J.length) => show 0 ≤ J.getD i 0 ∧ J.getD i 0 ≤ 1024 by
    rw [hJ] at h ⊢
    rcases gd_casesP h with ⟨h3, e⟩ | ⟨q, h3, e⟩
    · rw [e]; have := R.st i h3; omega
    · rw [e]; have := Q.st q h3; omega)
  have hJ0 : 0 < J.length := by omega
  have hll : J.length ≤ 200000 := by omega
  have hJl : a.nx.length ≤ J.length := by omega
  clear e4 hJ hJl2
  rw [z4] at HJ
  have HCB := hide CB
  have HA4 := hide A4
  have hab : IntKind.i64.wrap (a.n + b.n) = a.n + b.n := by rw [IntKind.wrap_i64]; omega
  have hab2 : a.n ≤ 1024 := by omega
  have hab3 : b.n ≤ 1024 := by omega
  have HB4 := hide b4
  have HB5 := hide b5
  have HZ4 := hide z4
  clear CB A4 b4 b5 z4 V5
  unfold mval
  go_enter Try.func57, Try.ntmps57
  go_wp2_with fail
  rw [← hW4, ← hW5]
  refine (unhide HJ).mono ?_
  rintro e w6 ⟨v6, rfl, ho6, hb6⟩
  have b46 : Below W4.heap.size W4 w6 := bstep (unhide HB5) hb6
  have hz4 := unhide HZ4
  obtain ⟨gn, cv, ev, -, -, hg1, hg2, -, -⟩ := ho6.pos hJ0
  subst ev
  have z5 := (unhide HB5).size
  have hgn : w.heap.size + 1 + 1 + 1 + 1 ≤ gn := by omega
  obtain ⟨bA, bB⟩ := unhide HCB w6 (b46.block _ (by omega)) (b46.block _ (by omega))
  have hC6 : w6.heap[w.heap.size + 1 + 1 + 1]? = some (.cells #[.int .i64 a.kind, .int .i64 a.k, .int .i64 a.o, .int .i64 (a.n + b.n), .slice none 0 0, .slice none 0 0] 24) := (b46.block _ (by omega)).trans (unhide HA4).2.2.2
  have r4 : w6.cell? ⟨w.heap.size + 1 + 1 + 1, 4, none⟩ = some (.slice none 0 0) := by unfold World.cell?; rw [hC6]; rfl
  have f4 : w6.frozen? ⟨w.heap.size + 1 + 1 + 1, 4, none⟩ = false := by unfold World.frozen?; rw [hC6]; rfl
  obtain ⟨w7, hw7⟩ : ∃ w7, w7 = w6.setCell ⟨w.heap.size + 1 + 1 + 1, 4, none⟩ (.slice (some ⟨gn, 0, none⟩) J.length cv) := ⟨_, rfl⟩
  have K7 : ∀ k, k ≠ w.heap.size + 1 + 1 + 1 → w7.heap[k]? = w6.heap[k]? := fun k hk => by rw [hw7]; exact Below.heap_setCell _ _ _ _ hk
  have z7 : w7.heap.size = w6.heap.size := by rw [hw7]; simp
  have HBX7 : Hid (Box w7 (w.heap.size + 1 + 1 + 1) { kind := a.kind, k := a.k, o := a.o, n := a.n + b.n, nx := J, out := [] } (some ⟨gn, 0, none⟩) cv none 0) := by
    have C6 : Box w6 (w.heap.size + 1 + 1 + 1) { kind := a.kind, k := a.k, o := a.o, n := a.n + b.n, nx := [], out := [] } none 0 none 0 := by
      constructor <;> (unfold World.cell?; rw [hC6]; rfl)
    have ot : ∀ i, i ≠ 4 → w7.cell? ⟨w.heap.size + 1 + 1 + 1, i, none⟩ = w6.cell? ⟨w.heap.size + 1 + 1 + 1, i, none⟩ := fun i hi => by
      rw [hw7]
      exact setC_other w6 _ _ (i := 4) (fun e => hi e.symm)
    exact ⟨(ot 0 (by decide)).trans C6.p0, (ot 1 (by decide)).trans C6.p1, (ot 2 (by decide)).trans C6.p2, (ot 3 (by decide)).trans C6.p3, by rw [hw7]; exact World.cell?_setCell_same _ _ _ r4, (ot 5 (by decide)).trans C6.p5⟩
  have HO7 : Hid (Own w7 W5.heap.size (.slice (some ⟨gn, 0, none⟩) J.length cv) J.length (shF a.nx.length a.n J a.nx.length)) := by
    refine Own.congr (own_of_list (ho6.keep fun j e => K7 j ?_)) fun i hi => ?_
    · have : gn = j := Option.some.inj e
      omega
    · unfold shF
      rw [if_neg (by omega)]
  have HW7 : Hid (Below w.heap.size w w7) := by
    rw [hw7]
    exact (bstep (unhide HB4) b46).setCell (p := ⟨w.heap.size + 1 + 1 + 1, 4, none⟩) (by show w.heap.size ≤ w.heap.size + 1 + 1 + 1; omega) _
  have HA7 := hide (bA.keep (K7 _ (by omega)))
  have HB7 := hide (bB.keep (K7 _ (by omega)))
  have hZ7 : w7.heap[w.heap.size + 1 + 1]? = some (.cells #[.int .i64 0, .int .i64 0, .int .i64 0, .int .i64 0, .slice none 0 0, .slice none 0 0] 24) := (K7 _ (by omega)).trans ((b46.block _ (by omega)).trans (unhide HA4).2.2.1)
  have HZ7 := hide hZ7
  have HF7 : Hid (∀ i, w7.frozen? ⟨w.heap.size + 1 + 1 + 1, i, none⟩ = false) := fun i => by
    rw [hw7, World.frozen?_setCell]
    unfold World.frozen?; rw [hC6]; simp
  clear HJ ho6 hb6 b46 bB hC6 K7 hZ7 hg1 hg2 z5
  obtain ⟨p0, p1, p2, p3, p4, p5⟩ := bA
  obtain ⟨x0, x1, x2, x3, x4, x5⟩ := unhide HA7
  obtain ⟨y0, y1, y2, y3, y4, y5⟩ := unhide HBX7
  rw [hw7] at x4
  go_wp2
  rw [← hw7]
  clear hw7 r4 f4 p0 p1 p2 p3 p4 p5 x0 x1 x2 x3 x4 x5 y0 y1 y2 y3 y4 y5 z7
  go_loopw [6] (fun v wx => ∃ t : Nat, v = .int .i64 t ∧ a.nx.length ≤ t ∧ t ≤ J.length ∧ Own wx W5.heap.size (.slice (some ⟨gn, 0, none⟩) J.length cv) J.length (shF a.nx.length a.n J t) ∧ Bx (fun k => k = gn) w7 wx ∧ Hid (wx.heap.size = w7.heap.size)) (fun v _ => J.length - (intOf v).toNat)
  case atStart => exact ⟨a.nx.length, rfl, Nat.le_refl _, hJl, unhide HO7, Bx.refl _ _, rfl⟩
  case round =>
    obtain ⟨t, rfl, ht0, ht1, hown, hbx, hsz⟩ := hrel
    have HOW := hide hown
    have HBX := hide hbx
    obtain ⟨x0, x1, x2, x3, x4, x5⟩ := (unhide HA7).keep (hbx.block _ (by have := World.block_lt_of_cell? w7 _ (unhide HA7).p0; exact this) (by show ¬ w.heap.size = gn; omega))
    obtain ⟨y0, y1, y2, y3, y4, y5⟩ := (unhide HBX7).keep (hbx.block _ (World.block_lt_of_cell? w7 _ (unhide HBX7).p0) (by show ¬ w.heap.size + 1 + 1 + 1 = gn; omega))
    dsimp only at y0 y1 y2 y3 y4 y5
    by_cases hlt : t < J.length
    · have hlt' : (t : Int) < (J.length : Int) := by omega
      obtain ⟨g', c', e, q1, q2, q3, q4, hc, hf⟩ := hown.pos (by omega)
      obtain ⟨rfl, rfl⟩ : gn = g' ∧ cv = c' := by cases e; exact ⟨rfl, rfl⟩
      have hct := hc t hlt
      have hft := hf t
      have hst := unhide HST t hlt
      have es : shF a.nx.length a.n J t t = J.getD t 0 := by unfold shF; rw [if_neg (by omega)]
      rw [es] at hct
      have hw1 : IntKind.i64.wrap (J.getD t 0 + a.n) = J.getD t 0 + a.n := by rw [IntKind.wrap_i64]; omega
      obtain ⟨x, hx⟩ : ∃ x, x = J.getD t 0 := ⟨_, rfl⟩
      rw [← hx] at hct hst hw1
      have HX := hide hx
      clear hc hf e hown hbx es hx
      go_wp2
      go_big_region
      all_goals
        go_wp2
        go_roundw
        case rel => exact ⟨t + 1, by go_num, by omega, hlt, (Own.keep ((unhide HOW).store t (x + a.n)) fun _ _ => rfl).congr fun i _ => by rw [unhide HX]; exact shF_step ht0 i, ((unhide HBX).setCell (p := ⟨gn, t, none⟩) rfl _).drew, by show _ = _; simp; exact unhide hsz⟩
        case measure => simp [intOf]; omega
    · have hlt' : ¬ (t : Int) < (J.length : Int) := by omega
      have et : t = J.length := by omega
      subst et
      have HZr := hide ((hbx.block _ (Array.getElem?_eq_some_iff.1 (unhide HZ7)).1 (by show ¬ w.heap.size + 1 + 1 = gn; omega)).trans (unhide HZ7))
      have HFr : Hid (∀ i, wr.frozen? ⟨w.heap.size + 1 + 1 + 1, i, none⟩ = false) := fun i => by
        have h3 := unhide HF7 i
        unfold World.frozen? at h3 ⊢
        rw [hbx.block _ (World.block_lt_of_cell? w7 _ (unhide HBX7).p0) (by show ¬ w.heap.size + 1 + 1 + 1 = gn; omega)]
        exact h3
      have HBr := hide ((unhide HB7).keep (hbx.block _ (World.block_lt_of_cell? w7 _ (unhide HB7).p0) (by show ¬ w.heap.size + 1 = gn; omega)))
      have HCr : Hid (Box wr (w.heap.size + 1 + 1 + 1) { kind := a.kind, k := a.k, o := a.o, n := a.n + b.n, nx := J, out := [] } (some ⟨gn, 0, none⟩) cv none 0) := ⟨y0, y1, y2, y3, y4, y5⟩
      have HWr : Hid (Below w.heap.size w wr) := (unhide HW7).trans (hbx.below (fun k e => by have e2 : k = gn := e; omega) (unhide HW7).size)
      have hzr : w.heap.size + 1 + 1 + 1 < wr.heap.size := World.block_lt_of_cell? wr _ y4
      obtain ⟨z0, z1, z2, z3, z4, z5⟩ := unhide HBr
      obtain ⟨w8, hw8⟩ : ∃ w8, w8 = wr.alloc (.cells #[.slice a2 a.out.length c2, .slice d2 b.out.length e2] 22) := ⟨_, rfl⟩
      have b8 : Below wr.heap.size wr w8 := by rw [hw8]; exact ballo _ _
      have V8 : RdV w8 (some ⟨wr.heap.size, 0, none⟩) 2 (fun i => if i = 0 then .slice a2 a.out.length c2 else .slice d2 b.out.length e2) := by
        rw [hw8]; exact RdV.lit wr 2 _ _ (by unfold maxLen; omega) rfl
      have HJ2 := hide (joinL_any (some ⟨wr.heap.size, 0, none⟩) 2 2 _ (fun i => if i = 0 then a.out else b.out) (fun i => if i = 0 then c2 else e2) (fun i => if i = 0 then a2 else d2) w8 V8 (by omega) (fun i hi => by
        match i, hi with
        | 0, _ => exact ⟨rfl, h2.below (bstep (unhide HWr) b8), rd_some h2 oa, by show a.out.length ≤ _; omega⟩
        | 1, _ => exact ⟨rfl, g2.below (bstep (unhide HWr) b8), rd_some g2 ob, by show b.out.length ≤ _; omega⟩))
      have e4 : catL (fun i => if i = 0 then a.out else b.out) 2 = a.out ++ b.out := rfl
      obtain ⟨K, hK⟩ : ∃ K, K = a.out ++ b.out := ⟨_, rfl⟩
      have HKK := hide hK
      rw [e4, ← hK] at HJ2
      have HB8 := hide b8
      have HOJ : Hid (RdL .i64 wr (some ⟨gn, 0, none⟩) (uniM a b).nx) := by
        obtain ⟨g', c', e, -, -, -, -, hc, -⟩ := hown.pos (by omega)
        cases e
        refine .inr ⟨gn, 0, rfl, fun i hi => ?_⟩
        have el : (uniM a b).nx.length = J.length := by show (a.nx ++ b.nx.map _).length = _; rw [unhide HJJ]; simp
        rw [Nat.zero_add, hc i (by omega)]
        have h5 := shF_end (l := a.nx) (r := b.nx) (d := a.n) i (by rw [← unhide HJJ]; omega)
        rw [← unhide HJJ] at h5
        rw [h5]; rfl
      clear hown hbx b8 V8 e4 hK
      go_wp2_with fail
      rw [← hw8]
      refine (unhide HJ2).mono ?_
      rintro e w9 ⟨v9, rfl, ho9, hb9⟩
      have hb89 : Below wr.heap.size wr w9 := bstep (unhide HB8) hb9
      have HC9 := hide ((unhide HCr).below hb89)
      have HZ9 := hide ((hb89.block _ (by omega)).trans (unhide HZr))
      have f5 : w9.frozen? ⟨w.heap.size + 1 + 1 + 1, 5, none⟩ = false := by
        have h3 := unhide HFr 5
        unfold World.frozen? at h3 ⊢
        rw [hb89.block _ hzr]
        exact h3
      have HW9 := hide (bstep (unhide HWr) hb89)
      have HOJ9 := hide ((unhide HOJ).below hb89)
      have HO9 := hide ho9
      obtain ⟨a9, c9, e9, -, -, -, -, hb9s⟩ := ho9.shape
      subst e9
      have hz8 : wr.heap.size < w8.heap.size := by rw [hw8]; simp
      have hz9 := hb89.size
      clear HJ2 x0 x1 x2 x3 x4 x5 y0 y1 y2 y3 y4 y5 z0 z1 z2 z3 z4 z5 hb9 hb89 HCr HZr HFr HBr HWr HOJ ho9
      obtain ⟨y0, y1, y2, y3, y4, y5⟩ := unhide HC9
      dsimp only at y0 y1 y2 y3 y4 y5
      obtain ⟨⟨u0, u1, u2, u3, u4, u5⟩, v0, v1, v2, v3, v4, v5⟩ := zfacts (unhide HZ9)
      obtain ⟨w10, hw10⟩ : ∃ w10, w10 = w9.setCell ⟨w.heap.size + 1 + 1 + 1, 5, none⟩ (.slice a9 K.length c9) := ⟨_, rfl⟩
      obtain ⟨w11, hw11⟩ : ∃ w11, w11 = six w10 (w.heap.size + 1 + 1) { kind := a.kind, k := a.k, o := a.o, n := a.n + b.n, nx := J, out := K } (some ⟨gn, 0, none⟩) cv a9 c9 := ⟨_, rfl⟩
      have HZ10 : w10.heap[w.heap.size + 1 + 1]? = some zO := by
        rw [hw10, Below.heap_setCell _ _ _ _ (by show w.heap.size + 1 + 1 ≠ w.heap.size + 1 + 1 + 1; omega)]; exact unhide HZ9
      have C11 : Box w11 (w.heap.size + 1 + 1) { kind := a.kind, k := a.k, o := a.o, n := a.n + b.n, nx := J, out := K } (some ⟨gn, 0, none⟩) cv a9 c9 := by
        rw [hw11]; exact (zbox HZ10).six _ _ _ _ _
      have KW : ∀ k, k ≠ w.heap.size + 1 + 1 → k ≠ w.heap.size + 1 + 1 + 1 → w11.heap[k]? = w9.heap[k]? := fun k h3 h4 => by
        rw [hw11, six_heap _ _ _ _ _ _ h3, hw10, Below.heap_setCell _ _ _ _ h4]
      have B11 : Below w.heap.size w w11 := by
        rw [hw11]
        refine six_below ?_ (by omega) _ _ _ _ _
        rw [hw10]
        exact (unhide HW9).setCell (p := ⟨w.heap.size + 1 + 1 + 1, 5, none⟩) (by show w.heap.size ≤ w.heap.size + 1 + 1 + 1; omega) _
      have RJ : RdL .i64 w11 (some ⟨gn, 0, none⟩) (uniM a b).nx := by
        rcases unhide HOJ9 with h3 | ⟨b', off, e, hc⟩
        · exact .inl h3
        · cases e
          exact .inr ⟨gn, 0, rfl, fun i hi => (World.cell?_of_block (KW gn (by omega) (by omega))).trans (hc i hi)⟩
      have RK : RdL .i64 w11 a9 (uniM a b).out := by
        have h3 := OwnL.keep (unhide HO9) (w' := w11) fun j e => KW j (by have := (OwnL.lt (unhide HO9) e).1; omega) (by have := (OwnL.lt (unhide HO9) e).1; omega)
        obtain ⟨_, _, e, _, _, _, h4, _⟩ := h3.shape
        cases e
        rw [show (uniM a b).out = K from (unhide HKK).symm]
        exact h4
      have eJ : (uniM a b).nx.length = J.length := by show (a.nx ++ b.nx.map _).length = _; rw [unhide HJJ]; simp
      have eK : (uniM a b).out.length = K.length := by rw [unhide HKK]; rfl
      have FIN : BesPost a b w (.returned (.agg #[.int .i64 a.kind, .int .i64 a.k, .int .i64 a.o, .int .i64 (a.n + b.n), .slice (some ⟨gn, 0, none⟩) J.length cv, .slice a9 K.length c9])) w11 := by
        refine ⟨some ⟨gn, 0, none⟩, cv, a9, c9, ?_, RJ, RK, B11⟩
        unfold mval
        rw [eJ, eK]
        rfl
      have HFN := hide FIN
      have HC11 := hide C11
      unfold six at hw11
      rw [hw10] at hw11
      dsimp only at hw11
      clear FIN C11 KW B11 RJ RK eJ eK HZ10 hw10
      go_wp2
      rw [← hw11]
      clear y0 y1 y2 y3 y4 y5 u0 u1 u2 u3 u4 u5 v0 v1 v2 v3 v4 v5
      obtain ⟨q0, q1, q2, q3, q4, q5⟩ := unhide HC11
      dsimp only at q0 q1 q2 q3 q4 q5
      refine bodyPost_ret (v := .agg #[.int .i64 a.kind, .int .i64 a.k, .int .i64 a.o, .int .i64 (a.n + b.n), .slice (some ⟨gn, 0, none⟩) J.length cv, .slice a9 K.length c9]) ?_ rfl (unhide HFN)
      simp [results, Try.results57, go_sem, q0, q1, q2, q3, q4, q5]
end Go.Proofs.Ytagoilabphmdfaa
