/-
  The reference's Import, from the first line on: a row of pieces in the making, what stays while the machine grows.
-/
import Derived.Test.YtdnmabemollbeaaDoorTRIm
import Derived.Test.YtdnmabemollbeaaDoorK19
import Derived.Test.YtdnmabemollbeaaDoorK1
namespace Go.Proofs.YtdnmabemollbeaaDoor
open Go.RowKit

/-- A piece's cells. -/
def pcE (p : Pc) : List Value := [.string ⟨(pS p).toArray⟩, .int .i64 (pL p), .int .i64 (pH p), .int .i64 (pE p)]
theorem pcE_len (p : Pc) : (pcE p).length = 4 := rfl
theorem ePc : EltG 73 76 (.agg #[.string ⟨#[]⟩, .int .i64 0, .int .i64 0, .int .i64 0]) 4 40 pcE := ⟨Tryd.underlying76, by kernel_rfl, rfl, by decide, pcE_len, fun x u hu => by
  simp [pcE] at hu
  rcases hu with rfl | rfl | rfl | rfl <;> rfl⟩
abbrev OwnP (w : World) (B : Nat) (v : Value) (L : List Pc) : Prop := OwnG 73 4 pcE w B v L
theorem lit_pc (w : World) (p : Pc) (t : TypeId) : ∀ j u, (pcE p)[j]? = some u → (w.alloc (.cells #[.string ⟨(pS p).toArray⟩, .int .i64 (pL p), .int .i64 (pH p), .int .i64 (pE p)] t)).cell? ⟨w.heap.size, j, none⟩ = some u := fun j u h => by
  rw [World.cell?_alloc_new, ← Array.getElem?_toList]; exact h
theorem lit_pcs (w : World) (p q : Pc) (t : TypeId) : ∀ j u, (pcE p ++ pcE q)[j]? = some u → (w.alloc (.cells #[.string ⟨(pS p).toArray⟩, .int .i64 (pL p), .int .i64 (pH p), .int .i64 (pE p), .string ⟨(pS q).toArray⟩, .int .i64 (pL q), .int .i64 (pH q), .int .i64 (pE q)] t)).cell? ⟨w.heap.size, j, none⟩ = some u := fun j u h => by
  rw [World.cell?_alloc_new, ← Array.getElem?_toList]; exact h
section
variable {α : Type} {e : TypeId} {k : Nat} {enc : α → List Value} {w w' : World} {B : Nat} {v : Value} {L : List α}
variable {ops : Array Oper} {rest : List Oper} {o : Oper} {a : Act} {Q : Exit → Act → World → Prop}
/-- append(s, x, y) of a slice of the call's own. -/
theorem wplG_push2 {st : TypeId} {z : Value} {b : Nat} (E : EltG e st z k b enc) (hgd : o.guard = none) (s y : Operand) (ho : o.op = .call { callee := .builtin .append, args := #[s, y], argTypes := #[st, st] })
    (B : Nat) (v : Value) (L : List α) (hs : a.eval s = v) (hown : OwnG e k enc w B v L)
    (g c : Nat) (x x2 : α) (hx : a.eval y = .slice (some ⟨g, 0, none⟩) 2 c) (hc : ∀ j u, (enc x ++ enc x2)[j]? = some u → w.cell? ⟨g, j, none⟩ = some u)
    (hn : (L.length + 2) * b ≤ 140737488355328) (h63 : L.length + 2 ≤ maxLen) (hbase : B ≤ w.heap.size)
    (h : ∀ v' w', OwnG e k enc w' B v' (L ++ [x, x2]) → w.grownBy w' v.ownBlock → (∀ b, v'.ownBlock = some b → v.ownBlock = some b ∨ b = w.heap.size) → wpList Tryd.prog ops Q rest (a.put o.dst v') w') :
    wpList Tryd.prog ops Q (o :: rest) a w := by
  obtain ⟨i, hi, hz0, hz1, hz2⟩ := info_parts E.info
  refine wpList_append_own_at w hgd s y st ho B e i z k b E.und hi hz0 hz1 hz2 E.zs E.pos v L.length (L.flatMap enc) hs hown ⟨g, 0, none⟩ 2 c (enc x ++ enc x2) hx (by rw [List.length_append, E.len, E.len]; omega) ?_ (fun u hu => ?_) h63 hn hbase ?_
  · intro j u hj
    have := hc j u hj
    rw [add_at, Nat.zero_add]; exact this
  · rcases List.mem_append.1 hu with hu | hu
    · exact E.one x u hu
    · exact E.one x2 u hu
  · intro v' w' r1 r2 _ r4
    refine h v' w' ?_ r2 fun b hb => ?_
    · unfold OwnG
      rw [List.length_append, List.flatMap_append]
      have e1 : [x, x2].length = 2 := rfl
      have e2 : [x, x2].flatMap enc = enc x ++ enc x2 := by simp
      rw [e1, e2]; exact r1
    · rcases r4 with r4 | r4
      · exact .inl (r4 ▸ hb)
      · rw [r4] at hb; cases hb; exact .inr rfl
end
/-- The row of pieces as take reads it. -/
theorem own_row {w : World} {B : Nat} {v : Value} {ps : List Pc} (h : OwnP w B v ps) (hn : 0 < ps.length) : ∃ g cap, v = .slice (some ⟨g, 0, none⟩) ps.length cap ∧ B ≤ g ∧ g < w.heap.size ∧ PRow w g ps := by
  obtain ⟨g, cap, e, -, -, h1, h2, h3, -⟩ := OwnG.pos pcE_len (.tx []) h hn
  refine ⟨g, cap, e, h1, h2, fun t ht => ⟨?_, ?_, ?_, ?_⟩⟩
  · have := h3 t 0 ht (by decide); exact this
  · have := h3 t 1 ht (by decide); exact this
  · have := h3 t 2 ht (by decide); exact this
  · have := h3 t 3 ht (by decide); exact this
theorem own_blw {w w0 : World} {B : Nat} {v : Value} {L : List Pc} (h : OwnP w B v L) (hb : Below B w0 w) {w' : World} (hg : w.grownBy w' v.ownBlock) (hB : B ≤ w.heap.size) : Below B w0 w' :=
  hb.trans (bl_gr hg hB fun _ e => (OwnG.lt h e).1)

/-! ### What stays while one block grows -/
theorem RdL.gx {q : IntKind} {w w' : World} {a : Option Addr} {l : List Int} {X : Nat} (h : RdL q w a l) (hg : w.grownBy w' (some X)) (hx : ∀ x, a = some x → x.block ≠ X) : RdL q w' a l := by
  rcases h with h | ⟨b, off, rfl, hc⟩
  · exact .inl h
  · refine .inr ⟨b, off, rfl, fun i hi => ?_⟩
    have hlt := World.block_lt_of_cell? w _ (hc i hi)
    rw [World.cell?_of_block (w := w) (w' := w') (a := ⟨b, off + i, none⟩) (hg.block b hlt fun e => hx _ rfl (by injection e))]
    exact hc i hi
theorem Box.gx {w w' : World} {b : Nat} {m : Mc} {a1 : Option Addr} {c1 : Nat} {a2 : Option Addr} {c2 : Nat} {X : Nat} (h : Box w b m a1 c1 a2 c2) (hg : w.grownBy w' (some X)) (hb : b ≠ X) : Box w' b m a1 c1 a2 c2 := by
  have hlt := World.block_lt_of_cell? w _ h.p0
  have e : ∀ i, w'.cell? ⟨b, i, none⟩ = w.cell? ⟨b, i, none⟩ := fun i => World.cell?_of_block (a := ⟨b, i, none⟩) (hg.block b hlt fun e => hb (by injection e))
  exact ⟨by rw [e]; exact h.p0, by rw [e]; exact h.p1, by rw [e]; exact h.p2, by rw [e]; exact h.p3, by rw [e]; exact h.p4, by rw [e]; exact h.p5⟩
theorem PcB.gx {w w' : World} {b : Nat} {s : List UInt8} {lo hi er : Int} {X : Nat} (h : PcB w b s lo hi er) (hg : w.grownBy w' (some X)) (hb : b ≠ X) : PcB w' b s lo hi er := by
  have hlt := World.block_lt_of_cell? w _ h.p0
  have e : ∀ i, w'.cell? ⟨b, i, none⟩ = w.cell? ⟨b, i, none⟩ := fun i => World.cell?_of_block (a := ⟨b, i, none⟩) (hg.block b hlt fun e => hb (by injection e))
  exact ⟨by rw [e]; exact h.p0, by rw [e]; exact h.p1, by rw [e]; exact h.p2, by rw [e]; exact h.p3⟩
theorem PRow.gx {w w' : World} {g : Nat} {ps : List Pc} {X : Nat} (h : PRow w g ps) (hg : w.grownBy w' (some X)) (hb : g ≠ X) : PRow w' g ps := fun t ht => by
  obtain ⟨h0, h1, h2, h3⟩ := h t ht
  have hlt := World.block_lt_of_cell? w _ h0
  have e : ∀ i, w'.cell? ⟨g, i, none⟩ = w.cell? ⟨g, i, none⟩ := fun i => World.cell?_of_block (a := ⟨g, i, none⟩) (hg.block g hlt fun e => hb (by injection e))
  exact ⟨by rw [e]; exact h0, by rw [e]; exact h1, by rw [e]; exact h2, by rw [e]; exact h3⟩
theorem RdL.lt0 {q : IntKind} {w : World} {a : Option Addr} {l : List Int} (h : RdL q w a l) (hl : 0 < l.length) : ∀ x, a = some x → x.block < w.heap.size := by
  rcases h with h | ⟨b, off, rfl, hc⟩
  · omega
  · intro x e
    cases e
    exact World.block_lt_of_cell? w _ (hc 0 hl)
/-- As .gx, where the text may be empty. -/
theorem rd_gx {w0 w w' : World} {a : Option Addr} {b : List UInt8} {X : Nat} (h0 : RdL .u8 w0 a (zs b)) (h : RdL .u8 w a (zs b)) (hg : w.grownBy w' (some X)) (hx : w0.heap.size ≤ X) : RdL .u8 w' a (zs b) := by
  by_cases hl : 0 < (zs b).length
  · exact h.gx hg fun x e => by have := h0.lt0 hl x e; omega
  · exact .inl (by omega)
/-- The same while all but X stays. -/
theorem gx_trans {w w1 w2 : World} {X : Nat} (h1 : w.grownBy w1 (some X)) (h2 : w1.grownBy w2 (some X)) : w.grownBy w2 (some X) :=
  ⟨by rw [h2.os]; exact h1.os, by rw [h2.tape]; exact h1.tape, by rw [h2.output]; exact h1.output, Nat.le_trans h1.size h2.size, fun i hi hne => (h2.block i (Nat.lt_of_lt_of_le hi h1.size) hne).trans (h1.block i hi hne)⟩
theorem gx_below {w w1 w2 : World} {X : Nat} (h1 : w.grownBy w1 (some X)) (h2 : Below w1.heap.size w1 w2) : w.grownBy w2 (some X) :=
  ⟨by rw [h2.os]; exact h1.os, by rw [h2.tape]; exact h1.tape, by rw [h2.output]; exact h1.output, Nat.le_trans h1.size h2.size, fun i hi hne => (h2.block i (Nat.lt_of_lt_of_le hi h1.size)).trans (h1.block i hi hne)⟩
theorem gx_set {w w1 : World} {X : Nat} (h1 : w.grownBy w1 (some X)) (i : Nat) (u : Value) : w.grownBy (w1.setCell ⟨X, i, none⟩ u) (some X) :=
  ⟨h1.os, h1.tape, h1.output, by simpa using h1.size, fun j hj hne => (Below.heap_setCell w1 _ u j (fun e => hne (by rw [e]))).trans (h1.block j hj hne)⟩
theorem gx_refl (w : World) (X : Nat) : w.grownBy w (some X) := ⟨rfl, rfl, rfl, Nat.le_refl _, fun _ _ _ => rfl⟩
theorem gx_row {w w1 w2 : World} {X : Nat} {v : Value} {l : List Int} (h1 : w.grownBy w1 (some X)) (ho : OwnL .i64 3 w1 w.heap.size v l) (h2 : w1.grownBy w2 v.ownBlock) : w.grownBy w2 (some X) :=
  ⟨by rw [h2.os]; exact h1.os, by rw [h2.tape]; exact h1.tape, by rw [h2.output]; exact h1.output, Nat.le_trans h1.size h2.size, fun i hi hne => (h2.block i (Nat.lt_of_lt_of_le hi h1.size) (fun e => by have := (ho.lt e.symm).1; omega)).trans (h1.block i hi hne)⟩
theorem gx_bl {w w1 : World} {X B : Nat} (h : w.grownBy w1 (some X)) (hb : B ≤ w.heap.size) (hx : B ≤ X) : Below B w w1 := bl_gr h hb fun x e => by cases e; exact hx

/-! ### The state of the reading -/
/-- All that Import holds: the result, the two texts, the machine. -/
structure Rs (w wx : World) (kd k o n : Int) : Prop where
  bl : PcB wx (w.heap.size + 1 + 1 + 1 + 1) [32] 0 0 0
  en : PcB wx (w.heap.size + 1 + 1 + 1 + 1 + 1) [10] 0 0 0
  mo : Mo wx (w.heap.size + 1 + 1 + 1 + 1 + 1 + 1) wx.heap.size kd k o n (.slice none 0 0) (.slice none 0 0) [] []
  zr : Box wx w.heap.size mcZ none 0 none 0
  fz : ∀ i, wx.frozen? ⟨w.heap.size, i, none⟩ = false
  bw : Below w.heap.size w wx
  sz : w.heap.size + 1 + 1 + 1 + 1 + 1 + 1 + 1 ≤ wx.heap.size
theorem Mo.re {w : World} {mb B B' : Nat} {kd k o n : Int} (h : Mo w mb B kd k o n (.slice none 0 0) (.slice none 0 0) [] []) : Mo w mb B' kd k o n (.slice none 0 0) (.slice none 0 0) [] [] :=
  ⟨h.p0, h.p1, h.p2, h.p3, h.p4, h.p5, h.fz, OwnL.nil _ _ _ _, OwnL.nil _ _ _ _, h.ap⟩
theorem Rs.below {w wx wy : World} {kd k o n : Int} (h : Rs w wx kd k o n) (hb : Below wx.heap.size wx wy) : Rs w wy kd k o n := by
  have hz := h.sz
  refine ⟨h.bl.below hb, h.en.below hb, (h.mo.grown (r := none) ⟨hb.os, hb.tape, hb.output, hb.size, fun i hi _ => hb.block i hi⟩ (by intro e; cases e) (fun _ _ e => by cases e) (fun _ _ e => by cases e)).re, h.zr.below hb, fun i => frz_on (h.fz i) hb (by omega), bstep h.bw hb, Nat.le_trans h.sz hb.size⟩
theorem Rs.gx {w wx wy : World} {kd k o n k' o' n' : Int} (h : Rs w wx kd k o n) (hg : wx.grownBy wy (some (w.heap.size + 1 + 1 + 1 + 1 + 1 + 1))) {B : Nat} (hm : Mo wy (w.heap.size + 1 + 1 + 1 + 1 + 1 + 1) B kd k' o' n' (.slice none 0 0) (.slice none 0 0) [] []) : Rs w wy kd k' o' n' := by
  have hz := h.sz
  refine ⟨h.bl.gx hg (by omega), h.en.gx hg (by omega), hm.re, h.zr.gx hg (by omega), fun i => fz_gr (h.fz i) hg (by omega) (by intro e; injection e; omega), h.bw.trans (gx_bl hg (by omega) (by omega)), Nat.le_trans h.sz hg.size⟩
theorem Rs.start (kd : Int) (w : World) (u : Obj) : Rs w ((riW kd w).alloc u) kd 0 2 0 := by
  have h : Rs w (riW kd w) kd 0 2 0 := by
    refine ⟨riW_b kd w, riW_e kd w, (riW_m kd w).re, (Box.alloc w mcZ none 0 none 0 24).below (balloc (balloc (balloc (balloc (balloc (ballo _ _) _) _) _) _) _), fun i => ?_, riW_below kd w, ?_⟩
    · unfold riW; simp only [frozen?_alloc_cells]; exact frz_new w (by omega)
    · rw [riW_size]; omega
  exact h.below (ballo _ _)
theorem fit_tx (s : List UInt8) : ∀ {ps : List Pc} {l : List (Int × Int)}, Fitp (ps ++ [.tx s]) l → Fitp ps l
  | [], _, h => h
  | .tx _ :: ps, _, h => fit_tx s (ps := ps) h
  | .nm _ _ _ :: _, [], h => h.elim
  | .nm _ _ _ :: _, _ :: _, h => ⟨h.1, h.2.1, h.2.2.1, fit_tx s h.2.2.2⟩
theorem ri_good {b : List UInt8} {kd : Int} {l : List (Int × Int)} {j : Nat} (hb : b.length ≤ 20000) (hk : kdR b = kd) (hkd : kd = 1 ∨ kd = 2) (h : tk b 0 (hdR kd) = .ok (l, j)) : ∃ K O N : Nat, l = hdV kd K O N ∧ 1 ≤ K ∧ K ≤ 64 ∧ 1 ≤ N ∧ N ≤ 1024 ∧ 1 ≤ O ∧ O ≤ 64 ∧ (kd = 1 → O = 2) ∧ j ≤ b.length ∧ Hid (rfP b = rfB b kd K O N j) := by
  obtain ⟨hf, -, -⟩ := tk_was h
  have hj := (tk_le (Nat.zero_le _) h).2
  have hf' : Fitp (hdP kd) l := fit_tx _ hf
  obtain ⟨k, o, n, rfl, hk0, hk1, hn0, hn1, ho0, ho1, hod⟩ := hd_was hkd hf'
  obtain ⟨K, rfl⟩ := Int.eq_ofNat_of_zero_le (show 0 ≤ k by omega)
  obtain ⟨O, rfl⟩ := Int.eq_ofNat_of_zero_le (show 0 ≤ o by omega)
  obtain ⟨N, rfl⟩ := Int.eq_ofNat_of_zero_le (show 0 ≤ n by omega)
  refine ⟨K, O, N, rfl, by omega, by omega, by omega, by omega, by omega, by omega, fun e => by have := hod e; omega, hj, hide ?_⟩
  unfold rfP rfK
  rw [if_neg (by omega), hk, h]
  show rfB b kd (lK _) (lO kd _) (lN _) j = _
  rw [lK_hd, lN_hd, lO_hd _ _ _ hod]

section
variable {w wx : World} {kd k o n : Int}
theorem Rs.lt (h : Rs w wx kd k o n) : w.heap.size + 1 + 1 + 1 + 1 + 1 + 1 < wx.heap.size := by have := h.sz; omega
theorem Rs.head (h : Rs w wx kd k o n) (k' n' : Int) : wx.grownBy ((wx.setCell ⟨w.heap.size + 1 + 1 + 1 + 1 + 1 + 1, 1, none⟩ (.int .i64 k')).setCell ⟨w.heap.size + 1 + 1 + 1 + 1 + 1 + 1, 3, none⟩ (.int .i64 n')).drew (some (w.heap.size + 1 + 1 + 1 + 1 + 1 + 1)) ∧ Rs w ((wx.setCell ⟨w.heap.size + 1 + 1 + 1 + 1 + 1 + 1, 1, none⟩ (.int .i64 k')).setCell ⟨w.heap.size + 1 + 1 + 1 + 1 + 1 + 1, 3, none⟩ (.int .i64 n')).drew kd k' o n' := by
  have g := gx_below (gx_set (gx_set (gx_refl wx (w.heap.size + 1 + 1 + 1 + 1 + 1 + 1)) 1 (.int .i64 k')) 3 (.int .i64 n')) (bdrew1 _)
  exact ⟨g, (h.gx (gx_set (gx_set (gx_refl wx (w.heap.size + 1 + 1 + 1 + 1 + 1 + 1)) 1 (.int .i64 k')) 3 (.int .i64 n')) ((h.mo.set1 h.lt k').set3 h.lt n')).below (bdrew1 _)⟩
theorem Rs.says (h : Rs w wx kd k o n) (o' : Int) : Rs w (wx.setCell ⟨w.heap.size + 1 + 1 + 1 + 1 + 1 + 1, 2, none⟩ (.int .i64 o')) kd k o' n :=
  h.gx (gx_set (gx_refl wx _) 2 _) (h.mo.set2 h.lt o')
end
/-- The two pieces of a line. -/
def Two (w0 wx : World) (v y : Value) (o n : Int) : Prop := ∃ gs gy, v = .pointer (some ⟨gs, 0, none⟩) ∧ y = .pointer (some ⟨gy, 0, none⟩) ∧ PcB wx gs [] 0 (n - 1) 32 ∧ PcB wx gy [] 0 (o - 1) 33 ∧ Below w0.heap.size w0 wx

theorem Two.a (w : World) (o n : Int) (t : TypeId) : Two w ((w.alloc (.cells #[.string ⟨#[]⟩, .int .i64 0, .int .i64 (n - 1), .int .i64 32] t)).alloc (.cells #[.string ⟨#[]⟩, .int .i64 0, .int .i64 (o - 1), .int .i64 33] t)).drew (.pointer (some ⟨w.heap.size, 0, none⟩)) (.pointer (some ⟨w.heap.size + 1, 0, none⟩)) o n := by
  have h := PcB.made (w.alloc (.cells #[.string ⟨#[]⟩, .int .i64 0, .int .i64 (n - 1), .int .i64 32] t)) [] 0 (o - 1) 33 t
  rw [World.size_alloc] at h
  exact ⟨_, _, rfl, rfl, ((PcB.made w [] 0 (n - 1) 32 t).below (ballo _ _)).below (bdrew1 _), h.below (bdrew1 _), bstep (balloc (ballo _ _) _) (bdrew1 _)⟩
theorem Two.b (w : World) (o n : Int) (t : TypeId) : Two w ((w.alloc (.cells #[.string ⟨#[]⟩, .int .i64 0, .int .i64 (o - 1), .int .i64 33] t)).alloc (.cells #[.string ⟨#[]⟩, .int .i64 0, .int .i64 (n - 1), .int .i64 32] t)).drew (.pointer (some ⟨w.heap.size + 1, 0, none⟩)) (.pointer (some ⟨w.heap.size, 0, none⟩)) o n := by
  have h := PcB.made (w.alloc (.cells #[.string ⟨#[]⟩, .int .i64 0, .int .i64 (o - 1), .int .i64 33] t)) [] 0 (n - 1) 32 t
  rw [World.size_alloc] at h
  exact ⟨_, _, rfl, rfl, h.below (bdrew1 _), ((PcB.made w [] 0 (o - 1) 33 t).below (ballo _ _)).below (bdrew1 _), bstep (balloc (ballo _ _) _) (bdrew1 _)⟩

/-! ### A line -/
theorem lnB_mem (kd o n : Int) : ∀ {x : Nat} {p : Pc}, p ∈ lnB kd o n x → p = .tx [32] ∨ p = .tx [47] ∨ p = .nm 0 (n - 1) 32 ∨ p = .nm 0 (o - 1) 33
  | 0, p, h => by cases h
  | x + 1, p, h => by
    rw [lnB] at h
    rcases List.mem_append.1 h with h | h
    · exact lnB_mem kd o n h
    · split at h
      · split at h <;> simp at h <;> rcases h with h | h | h <;> simp [h]
      · split at h <;> simp at h <;> rcases h with h | h | h | h <;> simp [h]
theorem lnB_len (kd o n : Int) : ∀ x, (lnB kd o n x).length ≤ 4 * x
  | 0 => by simp [lnB]
  | x + 1 => by
    have := lnB_len kd o n x
    rw [lnB, List.length_append]
    split
    · split <;> simp <;> omega
    · split <;> simp <;> omega
theorem lnR_mem {kd k o n : Int} {p : Pc} (h : p ∈ lnR kd k o n) : p = .tx [10] ∨ p = .tx [32] ∨ p = .tx [47] ∨ p = .nm 0 (n - 1) 32 ∨ p = .nm 0 (o - 1) 33 := by
  rcases List.mem_append.1 h with h | h
  · exact .inr (lnB_mem kd o n h)
  · simp at h; exact .inl h
theorem lnR_ok (kd k o n : Int) : Pok (lnR kd k o n) := fun s h => by
  rcases lnR_mem h with h | h | h | h | h <;> cases h <;> decide
theorem lnR_errs (kd k o n : Int) : Errs (lnR kd k o n) := fun lo hi e h => by
  rcases lnR_mem h with h | h | h | h | h <;> cases h <;> decide
theorem lnR_len (kd o n : Int) {K : Nat} (hK : K ≤ 64) : (lnR kd K o n).length ≤ 300 ∧ 0 < (lnR kd K o n).length := by
  have := lnB_len kd o n K
  unfold lnR
  rw [List.length_append, Int.toNat_natCast]
  simp; omega
theorem rp_ok {b : List UInt8} {kd k o n : Int} {j0 J N S q : Nat} {L l : List (Int × Int)} (h : tk b j0 (rpR kd k o n N) = pre L (tk b J (rpR kd k o n (N - S)))) (hS : S < N) (hl : tk b J (lnR kd k o n) = .ok (l, q)) : tk b j0 (rpR kd k o n N) = pre (L ++ l) (tk b q (rpR kd k o n (N - (S + 1)))) := by
  rw [h, show N - S = (N - (S + 1)) + 1 by omega, rpR, tk_app_ok hl, pre_pre]
theorem rp_bad {b : List UInt8} {kd k o n : Int} {j0 J N S : Nat} {L : List (Int × Int)} {x : Nat × Int} (h : tk b j0 (rpR kd k o n N) = pre L (tk b J (rpR kd k o n (N - S)))) (hS : S < N) (hl : tk b J (lnR kd k o n) = .error x) : tk b j0 (rpR kd k o n N) = .error x := by
  rw [h, show N - S = (N - (S + 1)) + 1 by omega, rpR, tk_app_bad hl]; rfl
section
variable {b : List UInt8} {kd : Int} {K O N j0 : Nat}
theorem rv_bad {p : Nat} {er : Int} (HV : rfP b = rfB b kd K O N j0) (h : tk b j0 (rpR kd K O N N) = .error (p, er)) : imV b (rfP b) = (mcZ, er, (p : Int)) := by
  rw [HV]
  unfold rfB
  rw [Int.toNat_natCast, h]; rfl
theorem rv_more {L : List (Int × Int)} {q : Nat} (HV : rfP b = rfB b kd K O N j0) (h : tk b j0 (rpR kd K O N N) = .ok (L, q)) (hq : q < b.length) : imV b (rfP b) = (mcZ, 6, (q : Int)) := by
  rw [HV]
  unfold rfB
  rw [Int.toNat_natCast, h]
  simp only []
  rw [if_pos hq]; rfl
theorem rv_ok {L : List (Int × Int)} {q : Nat} (HV : rfP b = rfB b kd K O N j0) (h : tk b j0 (rpR kd K O N N) = .ok (L, q)) (hq : ¬ q < b.length) : imV b (rfP b) = (⟨kd, K, O, N, pk 32 L, pk 33 L⟩, 0, (b.length : Int)) := by
  rw [HV]
  unfold rfB
  rw [Int.toNat_natCast, h]
  simp only []
  rw [if_neg hq]; rfl
end
theorem pre_done {L : List (Int × Int)} {b : List UInt8} {J : Nat} : pre L (tk b J []) = .ok (L, J) := by simp [tk, pre]

/-! ### A line's numbers go into the machine -/
/-- The machine in the making, a line's numbers beside it. -/
structure Ln (w0 wx : World) (mb ga ca : Nat) (kd k o n : Int) (vn vo : Value) (nx out ls : List Int) : Prop where
  mo : Mo wx mb w0.heap.size kd k o n vn vo nx out
  ow : OwnL .i64 3 wx w0.heap.size (.slice (some ⟨ga, 0, none⟩) ls.length ca) ls
  nn : vn.ownBlock ≠ some ga
  no : vo.ownBlock ≠ some ga
  gr : w0.grownBy wx (some mb)
  lt : mb < w0.heap.size
section
variable {w0 wx w3 : World} {mb ga ca : Nat} {kd k o n : Int} {vn vo v' : Value} {nx out ls l' : List Int} {r : Option Nat}
theorem Ln.below {wy : World} (h : Ln w0 wx mb ga ca kd k o n vn vo nx out ls) (hb : Below wx.heap.size wx wy) : Ln w0 wy mb ga ca kd k o n vn vo nx out ls :=
  ⟨h.mo.grown (r := none) ⟨hb.os, hb.tape, hb.output, hb.size, fun i hi _ => hb.block i hi⟩ (by intro e; cases e) (fun _ _ e => by cases e) (fun _ _ e => by cases e), h.ow.grown hb, h.nn, h.no, gx_below h.gr hb, h.lt⟩
theorem Ln.bk (h : Ln w0 wx mb ga ca kd k o n vn vo nx out ls) : w0.heap.size ≤ ga ∧ ga < wx.heap.size := h.ow.lt rfl
theorem Ln.keep (h : Ln w0 wx mb ga ca kd k o n vn vo nx out ls) (hg : wx.grownBy w3 r) (hr : r = vn.ownBlock ∨ r = vo.ownBlock) : (∀ i, w3.cell? ⟨mb, i, none⟩ = wx.cell? ⟨mb, i, none⟩) ∧ (∀ i, w3.frozen? ⟨mb, i, none⟩ = false) ∧ w3.heap[ga]? = wx.heap[ga]? := by
  have hl := h.mo.lt
  have hne : r ≠ some mb := by
    have := h.lt
    rcases hr with rfl | rfl
    · intro e; have := (h.mo.on.lt e).1; omega
    · intro e; have := (h.mo.oo.lt e).1; omega
  have e := hg.block mb hl fun e => hne e.symm
  refine ⟨fun i => World.cell?_of_block (a := ⟨mb, i, none⟩) e, fun i => fz_gr (h.mo.fz i) hg hl hne, hg.block ga h.bk.2 fun e => ?_⟩
  rcases hr with rfl | rfl
  · exact h.nn e.symm
  · exact h.no e.symm
theorem Ln.setN (h : Ln w0 wx mb ga ca kd k o n vn vo nx out ls) (ho : OwnL .i64 3 w3 w0.heap.size v' l') (hg : wx.grownBy w3 vn.ownBlock) (hat : ∀ i, v'.ownBlock = some i → vn.ownBlock = some i ∨ i = wx.heap.size) : Ln w0 (w3.setCell ⟨mb, 4, none⟩ v') mb ga ca kd k o n v' vo l' out ls := by
  have hgm := h.bk
  have hlt := h.lt
  refine ⟨h.mo.setN h.lt hg hat ho, h.ow.keep fun b hb => ?_, fun e => ?_, h.no, gx_set (gx_row h.gr h.mo.on hg) 4 _, h.lt⟩
  · cases hb
    rw [Below.heap_setCell w3 _ _ _ (by show ga ≠ mb; omega)]
    exact (h.keep hg (.inl rfl)).2.2
  · rcases hat _ e with e | e
    · exact h.nn e
    · omega
theorem Ln.setO (h : Ln w0 wx mb ga ca kd k o n vn vo nx out ls) (ho : OwnL .i64 3 w3 w0.heap.size v' l') (hg : wx.grownBy w3 vo.ownBlock) (hat : ∀ i, v'.ownBlock = some i → vo.ownBlock = some i ∨ i = wx.heap.size) : Ln w0 (w3.setCell ⟨mb, 5, none⟩ v') mb ga ca kd k o n vn v' nx l' ls := by
  have hgm := h.bk
  have hlt := h.lt
  refine ⟨h.mo.setO h.lt hg hat ho, h.ow.keep fun b hb => ?_, h.nn, fun e => ?_, gx_set (gx_row h.gr h.mo.oo hg) 5 _, h.lt⟩
  · cases hb
    rw [Below.heap_setCell w3 _ _ _ (by show ga ≠ mb; omega)]
    exact (h.keep hg (.inr rfl)).2.2
  · rcases hat _ e with e | e
    · exact h.no e
    · omega
theorem Ln.at (h : Ln w0 wx mb ga ca kd k o n vn vo nx out ls) {i : Nat} (hi : i < ls.length) : wx.cell? ⟨ga, i, none⟩ = some (.int .i64 (ls.getD i 0)) := by
  obtain ⟨g, cap, e, -, -, -, -, hc, -⟩ := h.ow.pos (by omega)
  cases e
  exact hc i hi
end
theorem pk_le1 (e : Int) (l : List (Int × Int)) : (pk e l).length ≤ l.length := by
  unfold pk; rw [List.length_map]; exact List.length_filter_le _ _
theorem pk_yes1 {e : Int} {L l : List (Int × Int)} {i : Nat} (hi : i < l.length) (h : (l.getD i (0, 0)).1 = e) : pk e (L ++ l.take (i + 1)) = pk e (L ++ l.take i) ++ [(l.getD i (0, 0)).2] := by
  rw [take_last hi, ← List.append_assoc, pk_app, pk_yes h]; rfl
theorem pk_no1 {e : Int} {L l : List (Int × Int)} {i : Nat} (hi : i < l.length) (h : (l.getD i (0, 0)).1 ≠ e) : pk e (L ++ l.take (i + 1)) = pk e (L ++ l.take i) := by
  rw [take_last hi, ← List.append_assoc, pk_app, pk_no h]; simp [pk]
theorem map_at {l : List (Int × Int)} {i : Nat} (hi : i < l.length) : (l.map (·.2)).getD i 0 = (l.getD i (0, 0)).2 := by simp [hi]

end Go.Proofs.YtdnmabemollbeaaDoor
