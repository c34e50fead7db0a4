/-
  The reference's Put of layer 11, where nothing clashes.
-/
import Derived.Test.YtemalidanjfmkaaCPut
import Derived.Test.YtemalidanjfmkaaCReg
import Derived.Test.YtemalidanjfmkaaK19
namespace Go.Proofs.Ytemalidanjfmkaa
set_option linter.unusedVariables false
open Go.RowKit

/-- What Put leaves. -/
def PkPost (w : World) (p0 : Cv) (r : Cs × Int) (e : Ending) (w' : World) : Prop :=
  ∃ p : Cv, e = .returned (.tuple #[cvV p, .int .i64 r.2]) ∧ p.cs = r.1 ∧ RdC w' p ∧ Cok p ∧ Below w.heap.size w w' ∧ ∀ X : Nat → Prop, (∀ j, X j → j < w.heap.size) → (∀ wz, Bx X w wz → RdC wz p0) → ∀ wz, Bx X w' wz → RdC wz p
theorem bx_down {X : Nat → Prop} {a b c : World} (hb : Below a.heap.size a b) (hz : Bx X b c) : Bx X a c := (Bx.of hb).trans hz fun _ _ q => q
/-- What Put holds, and that it may be written to. -/
structure Pt3 (w w1 : World) (p : Cv) : Prop extends Pt2 w w1 p where
  fb : ∀ i, w1.frozen? ⟨w.heap.size, i, none⟩ = false
theorem Pt3.below {w w1 w2 : World} {p : Cv} (h : Pt3 w w1 p) (hb : Below w1.heap.size w1 w2) : Pt3 w w2 p :=
  ⟨h.toPt2.below hb, fun i => frzO (h.fb i) hb (World.block_lt_of_cell? w1 _ h.c.p0)⟩
theorem Pt3.start (w : World) (p : Cv) : Pt3 w ((w.alloc (.cells #[.int .i64 p.kind, .int .i64 p.k, .int .i64 p.o, .int .i64 0, .slice none 0 0, .slice none 0 0, .int .i64 p.most, .slice p.aw p.ws.length p.cw, .slice p.ao p.os.length p.co, .slice p.ab p.bg.length p.cb, .int .i64 p.hits, .int .i64 p.miss] 34)).alloc (.cells #[.int .i64 0, .int .i64 0, .int .i64 0, .int .i64 0, .slice none 0 0, .slice none 0 0, .int .i64 0, .slice none 0 0, .slice none 0 0, .slice none 0 0, .int .i64 0, .int .i64 0] 34)) p :=
  ⟨Pt2.start w p, fun i => by rw [frozen?_alloc_cells, frozen?_alloc_cells]; exact frzN _ (by simp)⟩
theorem putK_full {c : Cs} {v out : List Int} (h1 : wdE v c.k = 0) (h2 : chkA ⟨1, v, ⟨c.kind, c.k, c.o, 0, [], []⟩⟩ ⟨1, out, []⟩ = 0) (h3 : clsV c v out = false) (h4 : c.most < ((frsV c v).length : Int)) : putV c v out = (c, 110) := by
  unfold putV
  rw [if_neg (fun h => h h1), if_neg (fun h => h h2), if_neg (by rw [h3]; simp), if_pos h4]
theorem putK_ok {c : Cs} {v out : List Int} (h1 : wdE v c.k = 0) (h2 : chkA ⟨1, v, ⟨c.kind, c.k, c.o, 0, [], []⟩⟩ ⟨1, out, []⟩ = 0) (h3 : clsV c v out = false) (h4 : ((frsV c v).length : Int) ≤ c.most) : putV c v out = ({ c with ws := c.ws ++ [v], os := c.os ++ [out], bg := frsV c v }, 0) := by
  unfold putV
  rw [if_neg (fun h => h h1), if_neg (fun h => h h2), if_neg (by rw [h3]; simp), if_neg (by omega)]

theorem Pt3.sX {w w1 : World} {p : Cv} (h : Pt3 w w1 p) (i : Nat) (u : Value) {p2 : Cv} (hc : Cb (w1.setCell ⟨w.heap.size, i, none⟩ u) w.heap.size p2) : Pt3 w (w1.setCell ⟨w.heap.size, i, none⟩ u) p2 := by
  refine ⟨⟨hc, h.z.keepB (Below.heap_setCell _ _ _ _ (by show w.heap.size + 1 ≠ w.heap.size; omega)), fun j => ?_, h.b.setCell (p := ⟨w.heap.size, i, none⟩) (Nat.le_refl _) u⟩, fun j => ?_⟩
  · rw [World.frozen?_setCell]; exact h.f j
  · rw [World.frozen?_setCell]; exact h.fb j
section
variable {w : World} {b : Nat} {p : Cv}
theorem sc_ot {i j : Nat} {v : Value} (hi : i ≠ j) : (w.setCell ⟨b, i, none⟩ v).cell? ⟨b, j, none⟩ = w.cell? ⟨b, j, none⟩ := World.cell?_setCell_other (w := w) (a := ⟨b, i, none⟩) (b := ⟨b, j, none⟩) (v := v) (h := fun e => hi (by injection e))
theorem sc_sm {i : Nat} {v x : Value} (hx : w.cell? ⟨b, i, none⟩ = some x) : (w.setCell ⟨b, i, none⟩ v).cell? ⟨b, i, none⟩ = some v := World.cell?_setCell_same w ⟨b, i, none⟩ v hx
theorem Cb.put9 (h : Cb w b p) (l : List La) (a : Option Addr) (c : Nat) : Cb (w.setCell ⟨b, 9, none⟩ (.slice a l.length c)) b { p with bg := l, ab := a, cb := c } :=
  ⟨(sc_ot (by decide)).trans h.p0, (sc_ot (by decide)).trans h.p1, (sc_ot (by decide)).trans h.p2, (sc_ot (by decide)).trans h.p3, (sc_ot (by decide)).trans h.p4, (sc_ot (by decide)).trans h.p5, (sc_ot (by decide)).trans h.p6, (sc_ot (by decide)).trans h.p7, (sc_ot (by decide)).trans h.p8, sc_sm h.p9, (sc_ot (by decide)).trans h.p10, (sc_ot (by decide)).trans h.p11⟩
theorem Cb.put7 (h : Cb w b p) (l : List La) (a : Option Addr) (c : Nat) : Cb (w.setCell ⟨b, 7, none⟩ (.slice a l.length c)) b { p with ws := l, aw := a, cw := c } :=
  ⟨(sc_ot (by decide)).trans h.p0, (sc_ot (by decide)).trans h.p1, (sc_ot (by decide)).trans h.p2, (sc_ot (by decide)).trans h.p3, (sc_ot (by decide)).trans h.p4, (sc_ot (by decide)).trans h.p5, (sc_ot (by decide)).trans h.p6, sc_sm h.p7, (sc_ot (by decide)).trans h.p8, (sc_ot (by decide)).trans h.p9, (sc_ot (by decide)).trans h.p10, (sc_ot (by decide)).trans h.p11⟩
theorem Cb.put8 (h : Cb w b p) (l : List La) (a : Option Addr) (c : Nat) : Cb (w.setCell ⟨b, 8, none⟩ (.slice a l.length c)) b { p with os := l, ao := a, co := c } :=
  ⟨(sc_ot (by decide)).trans h.p0, (sc_ot (by decide)).trans h.p1, (sc_ot (by decide)).trans h.p2, (sc_ot (by decide)).trans h.p3, (sc_ot (by decide)).trans h.p4, (sc_ot (by decide)).trans h.p5, (sc_ot (by decide)).trans h.p6, (sc_ot (by decide)).trans h.p7, sc_sm h.p8, (sc_ot (by decide)).trans h.p9, (sc_ot (by decide)).trans h.p10, (sc_ot (by decide)).trans h.p11⟩
end
theorem Pt3.s9 {w w1 : World} {p : Cv} (h : Pt3 w w1 p) (l : List La) (a : Option Addr) (c : Nat) : Pt3 w (w1.setCell ⟨w.heap.size, 9, none⟩ (.slice a l.length c)) { p with bg := l, ab := a, cb := c } := h.sX 9 _ (h.c.put9 l a c)
theorem Pt3.s7 {w w1 : World} {p : Cv} (h : Pt3 w w1 p) (l : List La) (a : Option Addr) (c : Nat) : Pt3 w (w1.setCell ⟨w.heap.size, 7, none⟩ (.slice a l.length c)) { p with ws := l, aw := a, cw := c } := h.sX 7 _ (h.c.put7 l a c)
theorem Pt3.s8 {w w1 : World} {p : Cv} (h : Pt3 w w1 p) (l : List La) (a : Option Addr) (c : Nat) : Pt3 w (w1.setCell ⟨w.heap.size, 8, none⟩ (.slice a l.length c)) { p with os := l, ao := a, co := c } := h.sX 8 _ (h.c.put8 l a c)
/-- What may be written to. -/
def XX (w : World) (X : Nat → Prop) (k : Nat) : Prop := X k ∨ k = w.heap.size ∨ k = w.heap.size + 1
/-- A slice of lists reads so, whatever is written into the two structs, and to where the cache's own lists do not lie. -/
def RdX (w : World) (p : Cv) (wr : World) (a : Option Addr) (fr : List La) : Prop := ∀ X : Nat → Prop, (∀ j, X j → j < w.heap.size) → (∀ wz, Bx X w wz → RdC wz p) → ∀ wz, Bx (XX w X) wr wz → RdLs wz a fr
def RwX (w : World) (p : Cv) (wr : World) (x : La) : Prop := ∀ X : Nat → Prop, (∀ j, X j → j < w.heap.size) → (∀ wz, Bx X w wz → RdC wz p) → ∀ wz, Bx (XX w X) wr wz → LaOk wz x
section
variable {w wr wx : World} {p : Cv} {a : Option Addr} {fr : List La}
theorem xx_down {X : Nat → Prop} (hb : Below w.heap.size w wr) {wz : World} (hz : Bx (XX w X) wr wz) : Bx X w wz :=
  (Bx.of hb).trans hz fun j hj q => by
    rcases q with q | q | q
    · exact q
    · omega
    · omega
theorem RdX.now (hr : RdC w p) (h : RdX w p wr a fr) : RdLs wr a fr := h (fun _ => False) (fun _ q => q.elim) (fun wz hz => hr.below (hz.below (fun _ q => q.elim) (Nat.le_refl _))) wr (Bx.refl _ _)
theorem RdX.old (hsel : ∀ wz, RdC wz p → RdLs wz a fr) (hb : Below w.heap.size w wr) : RdX w p wr a fr := fun X hX hS wz hz => hsel wz (hS wz (xx_down hb hz))
theorem RdX.below (h : RdX w p wr a fr) (hb : Below wr.heap.size wr wx) : RdX w p wx a fr := fun X hX hS wz hz => h X hX hS wz (bx_down hb hz)
theorem RdX.set (h : RdX w p wr a fr) {b : Nat} (hb : b = w.heap.size ∨ b = w.heap.size + 1) {i : Nat} (u : Value) : RdX w p (wr.setCell ⟨b, i, none⟩ u) a fr := fun X hX hS wz hz => h X hX hS wz (Bx.trans (Bx.setCell (X := XX w X) (Bx.refl _ wr) (p := ⟨b, i, none⟩) (.inr hb) u) hz fun _ _ q => q)
theorem LaOk.bxE {x : La} {X : Nat → Prop} (h : LaOk wr x) (hb : Bx X wr wx) (hx : x.l.length ≠ 0 → ∀ q, x.a = some q → ¬ X q.block) : LaOk wx x := by
  refine ⟨?_, h.nil, h.le, h.cap⟩
  by_cases c : x.l.length = 0
  · exact .inl c
  · exact h.rd.bx hb (hx c)
theorem RwX.new {x : La} (h : LaOk wr x) (hb : ∀ q, x.a = some q → w.heap.size + 1 < q.block) : RwX w p wr x := fun X hX hS wz hz => h.bxE hz fun _ q hq k => by
  have h3 := hb q hq
  rcases k with k | k | k
  · have := hX _ k; omega
  · omega
  · omega
theorem RdX.ofU {B : Nat} {n c : Nat} {ao : Option Addr} {ys : List La} (h : OwnU wr B (.slice ao n c) ys) (hB : w.heap.size + 1 < B) (hr : ∀ x ∈ ys, RwX w p wr x) : RdX w p wr ao ys := fun X hX hS wz hz => by
  obtain ⟨a', c', e, hrd, -⟩ := h.rd
  obtain rfl : ao = a' := by injection e
  refine ⟨?_, fun x hx => hr x hx X hX hS wz hz⟩
  rcases hrd.top with h0 | ⟨g, off, e2, hc⟩
  · exact .inl h0
  · subst e2
    refine .inr ⟨g, off, rfl, fun i hi => hz.cell (hc i hi) fun k => ?_⟩
    have h3 := (World.ownsRow.lt h.top g rfl).1
    have k' : XX w X g := k
    rcases k' with k | k | k
    · have := hX _ k; omega
    · omega
    · omega
theorem RdX.more {ad : Addr} {n c : Nat} {y : La} (h : RdX w p wr (some ad) fr) (hb : Below wr.heap.size wr wx) {ao : Option Addr} (hou : OwnU wx wr.heap.size (.slice ao n c) (fr ++ [y])) (hlt : w.heap.size + 1 < wr.heap.size) (hy : ∀ q, y.a = some q → wr.heap.size ≤ q.block) : RdX w p wx ao (fr ++ [y]) :=
  RdX.ofU hou hlt fun x hx => by
    rcases List.mem_append.1 hx with hx' | hx'
    · exact fun X hX hS wz hz => (h X hX hS wz (bx_down hb hz)).row x hx'
    · obtain rfl : x = y := by simpa using hx'
      exact RwX.new (hou.row x hx) fun q hq => by have := hy q hq; omega
end
theorem OwnU.lit (w : World) : OwnU (w.alloc (.cells #[] 29)) w.heap.size (.slice (some ⟨w.heap.size, 0, none⟩) 0 0) [] :=
  ⟨World.ownsRow_lit w #[] 0 (Nat.le_refl _) (by unfold maxLen; simp) rfl, fun _ h => (by cases h), fun _ h => (by cases h)⟩
theorem RdLs.lit1 (w : World) {l : List Int} {a : Option Addr} {c : Nat} (hr : RdL .i64 w a l) (hn : a = none → l.length = 0 ∧ c = 0) (hl : l.length ≤ c) (hm : c ≤ maxLen) : RdLs (w.alloc (.cells #[.slice a l.length c] 29)) (some ⟨w.heap.size, 0, none⟩) [⟨l, a, c⟩] :=
  ⟨.inr ⟨w.heap.size, 0, rfl, fun i hi => by
    obtain rfl : i = 0 := by simpa using hi
    simp [laV]⟩, fun x hx => by
    obtain rfl := List.mem_singleton.1 hx
    exact ⟨hr.below (ballo _ _), hn, hl, hm⟩⟩
theorem dozen_bx (w w0 : World) (p : Cv) (X : Nat → Prop) : Bx (XX w0 X) w (dozen w (w0.heap.size + 1) p) := by
  unfold dozen
  exact (((((((((((((Bx.refl (XX w0 X) w).setCell (p := ⟨w0.heap.size + 1, 0, none⟩) (.inr (.inr rfl)) _).setCell (p := ⟨w0.heap.size + 1, 1, none⟩) (.inr (.inr rfl)) _).setCell (p := ⟨w0.heap.size + 1, 2, none⟩) (.inr (.inr rfl)) _).setCell (p := ⟨w0.heap.size + 1, 3, none⟩) (.inr (.inr rfl)) _).setCell (p := ⟨w0.heap.size + 1, 4, none⟩) (.inr (.inr rfl)) _).setCell (p := ⟨w0.heap.size + 1, 5, none⟩) (.inr (.inr rfl)) _).setCell (p := ⟨w0.heap.size + 1, 6, none⟩) (.inr (.inr rfl)) _).setCell (p := ⟨w0.heap.size + 1, 7, none⟩) (.inr (.inr rfl)) _).setCell (p := ⟨w0.heap.size + 1, 8, none⟩) (.inr (.inr rfl)) _).setCell (p := ⟨w0.heap.size + 1, 9, none⟩) (.inr (.inr rfl)) _).setCell (p := ⟨w0.heap.size + 1, 10, none⟩) (.inr (.inr rfl)) _).setCell (p := ⟨w0.heap.size + 1, 11, none⟩) (.inr (.inr rfl)) _)

set_option maxRecDepth 100000 in
set_option maxHeartbeats 8000000 in
theorem rputC_ok (p : Cv) (a : Option Addr) (c : Nat) (v : List Int) (a' : Option Addr) (c' : Nat) (out : List Int) (w : World) (hr : RdC w p) (hv : RdL .i64 w a v) (ho : RdL .i64 w a' out) (lv : v.length ≤ 5000) (lo : out.length ≤ 5000) (hca : v.length ≤ c) (hna : a = none → v.length = 0 ∧ c = 0) (hcb : out.length ≤ c') (hnb : a' = none → out.length = 0 ∧ c' = 0) (hcc : c ≤ maxLen) (hcd : c' ≤ maxLen) (h1 : wdE v p.k = 0) (h2 : chkA ⟨1, v, ⟨p.kind, p.k, p.o, 0, [], []⟩⟩ ⟨1, out, []⟩ = 0) (h3 : clsV p.cs v out = false) (hk : Cok p) (hlw : p.ws.length ≤ 100000) (hlb : p.bg.length ≤ 10000000) :
    Calls Try.prog 16 #[cvV p, .slice a v.length c, .slice a' out.length c'] w (PkPost w p (putV p.cs v out)) := by
  have HT0 := hide (Pt3.start w p)
  have HR := hide hr
  have hck := rcheck_any a v.length c (fun i => v.getD i 0) p.k ((w.alloc (.cells #[.int .i64 p.kind, .int .i64 p.k, .int .i64 p.o, .int .i64 0, .slice none 0 0, .slice none 0 0, .int .i64 p.most, .slice p.aw p.ws.length p.cw, .slice p.ao p.os.length p.co, .slice p.ab p.bg.length p.cb, .int .i64 p.hits, .int .i64 p.miss] 34)).alloc (.cells #[.int .i64 0, .int .i64 0, .int .i64 0, .int .i64 0, .slice none 0 0, .slice none 0 0, .int .i64 0, .slice none 0 0, .slice none 0 0, .slice none 0 0, .int .i64 0, .int .i64 0] 34)) (hv.below (Pt3.start w p).b) (by unfold maxLen; omega)
  unfold cvV
  have t1 : (wdE v p.k != 0) = false := by simp [h1]
  have t2 : (chkA ⟨1, v, ⟨p.kind, p.k, p.o, 0, [], []⟩⟩ ⟨1, out, []⟩ != 0) = false := by simp [h2]
  have hkd := chk_kd h2
  have H3 := hide h3
  have HHF : Hid (p.most < ((frsV p.cs v).length : Int) → putV p.cs v out = (p.cs, 110)) := fun h => putK_full h1 h2 h3 h
  have HHK : Hid (((frsV p.cs v).length : Int) ≤ p.most → putV p.cs v out = ({ p.cs with ws := p.cs.ws ++ [v], os := p.cs.os ++ [out], bg := frsV p.cs v }, 0)) := fun h => putK_ok h1 h2 h3 h
  have HCK := hide (fun wz (hz : Below w.heap.size w wz) => rchk_any ⟨⟨1, v, ⟨p.kind, p.k, p.o, 0, [], []⟩⟩, a, c, none, 0, none, 0⟩ ⟨⟨1, out, []⟩, a', c', none, 0⟩ wz ⟨ho.below hz, .inl rfl⟩ (show out.length ≤ 1000000 by omega) (Nat.zero_le _))
  have HFD := hide (fun (wz : World) (hz : Below w.heap.size w wz) (I : Nat) => rfind_any p a c (v.take I) wz (hr.below hz) ((hv.below hz).take I) (by rw [List.length_take]; unfold maxLen; omega))
  have HV := hide hv
  have HO := hide ho
  unfold wdE at t1
  unfold maxLen at hcc hcd
  have HCOK := hide hk
  clear h1 h2 h3 hv ho hk
  generalize chkV v.length (fun i => v.getD i 0) p.k = X at *
  obtain ⟨p0, p1, p2, p3, p4, p5, p6, p7, p8, p9, p10, p11⟩ := (unhide HT0).c
  go_enter Try.func16, Try.ntmps16
  go_wp2_with fail
  refine hck.mono ?_
  rintro e w1 ⟨rfl, hw1⟩
  have HT1 : Hid (Pt3 w w1 p) := hw1 ▸ unhide HT0
  clear hw1 hck HT0 p0 p1 p2 p3 p4 p5 p6 p7 p8 p9 p10 p11
  have hc2 := unhide HCK w1 (unhide HT1).b
  unfold pqV paV at hc2
  dsimp only [List.length_nil] at hc2
  obtain ⟨p0, p1, p2, p3, p4, p5, p6, p7, p8, p9, p10, p11⟩ := (unhide HT1).c
  go_wp2_with fail
  refine hc2.mono ?_
  rintro e w2 ⟨rfl, hb2⟩
  have HT2 := hide ((unhide HT1).below hb2)
  clear hc2 HCK HT1 hb2 p0 p1 p2 p3 p4 p5 p6 p7 p8 p9 p10 p11
  generalize chkA ⟨1, v, ⟨p.kind, p.k, p.o, 0, [], []⟩⟩ ⟨1, out, []⟩ = Y at *
  go_wp2
  go_loopw [10] (fun iv wr => ∃ I : Nat, iv = .int .i64 (I : Int) ∧ I ≤ v.length + 1 ∧ Hid (Pt3 w wr p) ∧ Hid (∀ j, j < I → clsA p.cs v out j = false)) (fun iv _ => v.length + 1 - (intOf iv).toNat)
  case atStart => exact ⟨0, rfl, Nat.zero_le _, HT2, hide (fun j h => absurd h (Nat.not_lt_zero _))⟩
  case round =>
    obtain ⟨I, rfl, hI, HTr, HN⟩ := hrel
    by_cases hlt : I ≤ v.length
    rotate_left
    · have hlt' : ¬ (I : Int) ≤ (v.length : Int) := by omega
      have p9 := (unhide HTr).c.p9
      have HKC := hide (unhide HCOK)
      obtain ⟨⟨ad0, had0⟩, hkw, hko⟩ := unhide HCOK
      rw [had0] at p9
      have HAD := hide had0
      have HKW := hide hkw
      have HKO := hide hko
      have hbgr := hr.bg
      rw [had0] at hbgr
      have HBG : Hid (RdX w p wr (some ad0) p.bg) := RdX.old (fun wz q => by have := q.bg; rwa [unhide HAD] at this) (unhide HTr).b
      clear had0 hkw hko hbgr HFD HN
      go_wp2
      clear p9
      go_loopw [13, 14] (fun vf x wr => ∃ (I : Nat) (fr : List La) (ad : Addr) (cf : Nat), vf = .slice (some ad) fr.length cf ∧ x = .int .i64 (I : Int) ∧ I ≤ v.length + 1 ∧ Hid (RdX w p wr (some ad) fr) ∧ Hid (laL fr = frs v I (laL p.bg)) ∧ Hid (fr.length ≤ p.bg.length + I) ∧ Hid (Pt3 w wr p)) (fun _ x _ => v.length + 1 - (intOf x).toNat)
      case atStart => exact ⟨0, p.bg, ad0, p.cb, rfl, rfl, Nat.zero_le _, HBG, hide rfl, hide (Nat.le_refl _), HTr⟩
      case round =>
        obtain ⟨I, fr, ad, cf, rfl, rfl, hI, HFR, HFV, HFL, HTq⟩ := hrel
        clear HBG HTr
        by_cases hlt : I ≤ v.length
        · have hlt' : (I : Int) ≤ (v.length : Int) := by omega
          have hIc : (I : Int) ≤ (c : Int) := by omega
          have HTL := hide (take_len hlt)
          have hhs := rhasL_any (some ad) cf fr a c (v.take I) wr ((unhide HFR).now (unhide HR)) (((unhide HV).below (unhide HTq).b).take I) (by have := unhide HFL; unfold maxLen; omega)
          rw [unhide HTL] at hhs
          go_wp2_with fail
          refine hhs.mono ?_
          rintro e wB ⟨rfl, hbB⟩
          clear hhs
          have HTB := hide ((unhide HTq).below hbB)
          have HFB := hide ((unhide HFR).below hbB)
          by_cases hm : v.take I ∈ laL fr
          · have HFN : Hid (laL fr = frs v (I + 1) (laL p.bg)) := by
              show _ = _
              rw [frs, ← unhide HFV]; exact (if_pos hm).symm
            rw [decide_eq_true hm]
            clear hm
            go_wp2
            go_roundw
            case rel => exact ⟨I + 1, fr, ad, cf, rfl, by go_num, by omega, HFB, HFN, hide (by have := unhide HFL; omega), HTB⟩
            case measure => simp [intOf]; omega
          · have HFN : Hid (∀ y : La, y.l = v.take I → laL (fr ++ [y]) = frs v (I + 1) (laL p.bg)) := fun y hy => by
              rw [frs, ← unhide HFV]
              have e2 : laL (fr ++ [y]) = laL fr ++ [v.take I] := by unfold laL; simp [hy]
              rw [e2]; exact (if_neg hm).symm
            rw [decide_eq_false hm]
            clear hm
            go_wp2
            refine pf_region wB ad cf fr a c v I _ _ _ _ _ _ _ _ _ _ _ _ _ _ _ _ _ _ _ _ _ _ _ _ _ _ _ _ _ _ _ _ _ _ _ _ _ _ _ _ _ _ _ _ _ _ _ _ _ _ _ _ _ _ _ _ _ _ _ _ _ _ _ _ _ _ _ _ _ _ _ _ _ _ _ _ _ _ _ _ _ _ _ _ _ _ _ _ _ _ _ _ _ _ _ _ _ _ _ _ _ _ _ _ _ _ _ _ _ _ _ _ _ _ _ _ _ _ _ _ _ _ _ _ _ _ _ _ _ _ _ _ _ _ _ _ _ _ _ _ ((unhide HFB).now (unhide HR)) ((unhide HV).below (unhide HTB).b) hna hlt hca (by unfold maxLen; omega) (by have := unhide HFL; omega) (by omega) ?_
            intro X u103 u104 u105 u106 u107 u108 u109 u110 u111 u112 vn y hX hou hy hyb
            obtain ⟨an, cn, rfl, hrn, hnn⟩ := hou.rd
            cases an with
            | none => have := (hnn rfl).1; simp at this
            | some adn =>
              have HTX := hide ((unhide HTB).below hX)
              have HRX : Hid (RdX w p X (some adn) (fr ++ [y])) := RdX.more (unhide HFB) hX hou (unhide HTB).lt hyb
              have HFX := hide (unhide HFN y hy)
              have HLX : Hid ((fr ++ [y]).length ≤ p.bg.length + (I + 1)) := by
                show _ ≤ _
                have := unhide HFL
                rw [List.length_append, List.length_singleton]; omega
              clear hou hrn hnn hy hyb
              generalize fr ++ [y] = fr2 at *
              go_wp2
              go_roundw
              case rel => exact ⟨I + 1, fr2, adn, cn, rfl, by go_num, by omega, HRX, HFX, HLX, HTX⟩
              case measure => simp [intOf]; omega
        · have hlt' : ¬ (I : Int) ≤ (v.length : Int) := by omega
          have HFE : Hid (laL fr = frsV p.cs v) := by
            show _ = _
            rw [unhide HFV, show I = v.length + 1 by omega]; rfl
          have HFLL : Hid ((frsV p.cs v).length = fr.length) := by show _ = _; rw [← unhide HFE, laL_len]
          have p6 := (unhide HTq).c.p6
          have hfl := unhide HFL
          by_cases hmo : p.most < (fr.length : Int)
          · have hmo' : (fr.length : Int) > p.most := hmo
            have HE := hide (show putV p.cs v out = (p.cs, 110) from unhide HHF (by rw [unhide HFLL]; exact hmo))
            have TB := unhide HTq
            have hlB := TB.lt
            clear p6 HFLL HFE hmo
            obtain ⟨y0, y1, y2, y3, y4, y5, y6, y7, y8, y9, y10, y11⟩ := TB.z
            obtain ⟨p0, p1, p2, p3, p4, p5, p6, p7, p8, p9, p10, p11⟩ := TB.c
            have q0 := TB.f 0
            have q1 := TB.f 1
            have q2 := TB.f 2
            have q3 := TB.f 3
            have q4 := TB.f 4
            have q5 := TB.f 5
            have q6 := TB.f 6
            have q7 := TB.f 7
            have q8 := TB.f 8
            have q9 := TB.f 9
            have q10 := TB.f 10
            have q11 := TB.f 11
            dsimp only [cv0, List.length_nil] at y0 y1 y2 y3 y4 y5 y6 y7 y8 y9 y10 y11
            go_wp2
            clear y0 y1 y2 y3 y4 y5 y6 y7 y8 y9 y10 y11 p0 p1 p2 p3 p4 p5 p6 p7 p8 p9 p10 p11 q0 q1 q2 q3 q4 q5 q6 q7 q8 q9 q10 q11
            change bodyPost _ _ _ _ _ (dozen wr (w.heap.size + 1) p)
            have Z3 := TB.z.set p
            have b3 := dozen_below TB.b (b := w.heap.size + 1) (by omega) p
            have hlow := (fun w9 (e9 : w9 = dozen wr (w.heap.size + 1) p) => (show PkPost w p (putV p.cs v out) (.returned (.tuple #[cvV p, .int .i64 110])) w9 from ⟨p, by rw [unhide HE], by rw [unhide HE], by rw [e9]; exact (unhide HR).belowC b3, unhide HKC, by rw [e9]; exact b3, fun X hX hS wz hz => hS wz (bx_down (by rw [e9]; exact b3) hz)⟩))
            generalize dozen wr (w.heap.size + 1) p = w9 at *
            obtain ⟨z0, z1, z2, z3, z4, z5, z6, z7, z8, z9, z10, z11⟩ := Z3
            refine bodyPost_ret (v := .tuple #[cvV p, .int .i64 (110)]) ?_ rfl (hlow w9 rfl)
            simp [results, Try.results16, go_sem, cvV, z0, z1, z2, z3, z4, z5, z6, z7, z8, z9, z10, z11]
          · have hmo' : ¬ (fr.length : Int) > p.most := hmo
            have HE := hide (show putV p.cs v out = ({ p.cs with ws := p.cs.ws ++ [v], os := p.cs.os ++ [out], bg := frsV p.cs v }, 0) from unhide HHK (by rw [unhide HFLL]; show (fr.length : Int) ≤ p.most; omega))
            have k9 := (unhide HTq).c.p9
            have g9 := (unhide HTq).fb 9
            clear hmo HFLL
            go_upto_region 22 with fail
            clear k9 g9 p6
            have T5 : Pt3 w (wr.setCell ⟨w.heap.size, 9, none⟩ (.slice (some ad) fr.length cf)) { p with bg := fr, ab := some ad, cb := cf } := (unhide HTq).s9 fr (some ad) cf
            have F5 : RdX w p (wr.setCell ⟨w.heap.size, 9, none⟩ (.slice (some ad) fr.length cf)) (some ad) fr := (unhide HFR).set (.inl rfl) _
            change Code.wp _ _ _ _ (wr.setCell ⟨w.heap.size, 9, none⟩ (.slice (some ad) fr.length cf))
            generalize wr.setCell ⟨w.heap.size, 9, none⟩ (.slice (some ad) fr.length cf) = w5 at *
            have HT5 := hide T5
            have HF5 := hide F5
            have k7 : (w5.alloc (.cells #[] 29)).cell? ⟨w.heap.size, 7, none⟩ = some (.slice p.aw p.ws.length p.cw) := (T5.c.below (ballo _ _)).p7
            have hl5 := T5.lt
            have hlo5 : p.os.length ≤ 100000 := by rw [hr.len]; exact hlw
            clear T5 F5 HTq HFR
            go_upto_region 23 with (first | (at_builtin; refine wpl_pushU rfl (.tmp 121) (.tmp 123) rfl w5.heap.size _ [] rfl (OwnU.lit w5) p.aw p.cw p.ws rfl (RdLs.below hr.ws (bstep (unhide HT5).b (ballo _ _))) (unhide HKW) (fun x hx hn y hy e => by have h3 := (hr.ws.row x hx).lt hn y hy; have h4 : w5.heap.size = y.block := Option.some.inj e; have h5 := (unhide HT5).b.size; omega) (by simp only [List.length_nil]; omega) (by simp) ?_; rw [List.nil_append]; intro v6 w6 ho6 hb6 hg6; have hx6 : Below w5.heap.size w5 w6 := (ballo w5 _).trans hb6; have z6 := hx6.size; obtain ⟨a6, c6, rfl, -, -⟩ := ho6.rd) | (at_builtin; refine wpl_pushL eInt rfl (.tmp 125) (.tmp 126) rfl w6.heap.size _ [] rfl (OwnL.lit w6 _ [] #[] (Nat.le_refl _) (by unfold maxLen; simp) rfl) a c v rfl ((unhide HV).below (bstep (bstep (unhide HT5).b hx6) (ballo _ _))) hna (by simp only [List.length_nil]; omega) (by simp) ?_; rw [List.nil_append]; intro v7 w7 ho7 hb7 _; have hx7 : Below w6.heap.size w6 w7 := (ballo w6 _).trans hb7; have z7 := hx7.size; obtain ⟨a7, c7, rfl, hn7, hl7, hm7, hr7, hbk7⟩ := ho7.shape) | (at_builtin; refine wpl_pushU rfl (.tmp 124) (.tmp 128) rfl w5.heap.size _ p.ws rfl ((ho6.grown hx7).grown (ballo _ _)) (some ⟨w7.heap.size, 0, none⟩) 1 [⟨v, a7, c7⟩] rfl (RdLs.lit1 w7 hr7 hn7 hl7 hm7) (fun e => by cases e) (fun x hx hn y hy e => by obtain rfl := List.mem_singleton.1 hx; have h3 := (hbk7 y hy).1; have h4 := (World.ownsRow.lt ho6.top _ e).2; omega) (by simp only [List.length_singleton]; omega) (by simp; omega) ?_; intro v8 w8 ho8 hb8 hg8; have hx8 : Below w5.heap.size w5 w8 := ((bstep hx6 hx7).trans ((ballo w7 _).mono (by omega))).trans hb8; have k7 := ((unhide HT5).below hx8).c.p7; have g7 := ((unhide HT5).below hx8).fb 7; obtain ⟨a8, c8, rfl, -, hnn8⟩ := ho8.rd))
            have T8 := (unhide HT5).below hx8
            have T9 := T8.s7 (p.ws ++ [⟨v, a7, c7⟩]) a8 c8
            have G8 := (unhide HF5).below hx8
            have W8 : RdX w p w8 a8 (p.ws ++ [⟨v, a7, c7⟩]) := RdX.ofU ho8 (by have := (unhide HT5).lt; omega) (fun x hx => by
              have hz := (unhide HT5).lt
              rcases List.mem_append.1 hx with hx' | hx'
              · exact fun X hX hS wz hzz => (hS wz (xx_down (bstep (unhide HT5).b hx8) hzz)).ws.row x hx'
              · obtain rfl := List.mem_singleton.1 hx'
                exact RwX.new (ho8.row _ hx) fun q hq => by have := (hbk7 q hq).1; omega)
            have N8 : a8 ≠ none := fun e => by have := (hnn8 e).1; simp at this
            have hl8 : (p.ws ++ [(⟨v, a7, c7⟩ : La)]).length = p.ws.length + 1 := by simp
            rw [hl8] at T9
            change Code.wp _ _ _ _ (w8.setCell ⟨w.heap.size, 7, none⟩ (.slice a8 (p.ws.length + 1) c8))
            have W9 := W8.set (.inl rfl) (i := 7) (.slice a8 (p.ws.length + 1) c8)
            have G9 := G8.set (.inl rfl) (i := 7) (.slice a8 (p.ws.length + 1) c8)
            generalize w8.setCell ⟨w.heap.size, 7, none⟩ (.slice a8 (p.ws.length + 1) c8) = w9 at *
            have HT9 := hide T9
            have HFW9 := hide W9
            have HFG9 := hide G9
            have HN8 := hide N8
            have hl9 := T9.lt
            have k8 : (w9.alloc (.cells #[] 29)).cell? ⟨w.heap.size, 8, none⟩ = some (.slice p.ao p.os.length p.co) := (T9.c.below (ballo _ _)).p8
            clear T8 T9 G8 W8 W9 G9 N8 HT5 HF5 ho6 hb6 hg6 hx6 z6 ho7 hb7 hx7 z7 hn7 hl7 hm7 hr7 hbk7 ho8 hb8 hg8 hx8 hnn8 hl8 k7
            go_upto_region 24 with (first | (at_builtin; refine wpl_pushU rfl (.tmp 131) (.tmp 133) rfl w9.heap.size _ [] rfl (OwnU.lit w9) p.ao p.co p.os rfl (RdLs.below hr.os (bstep (unhide HT9).b (ballo _ _))) (unhide HKO) (fun x hx hn y hy e => by have h3 := (hr.os.row x hx).lt hn y hy; have h4 : w9.heap.size = y.block := Option.some.inj e; have h5 := (unhide HT9).b.size; omega) (by simp only [List.length_nil]; omega) (by simp) ?_; rw [List.nil_append]; intro v6 w10 ho6 hb6 hg6; have hx6 : Below w9.heap.size w9 w10 := (ballo w9 _).trans hb6; have z6 := hx6.size; obtain ⟨a10, c10, rfl, -, -⟩ := ho6.rd) | (at_builtin; refine wpl_pushL eInt rfl (.tmp 135) (.tmp 136) rfl w10.heap.size _ [] rfl (OwnL.lit w10 _ [] #[] (Nat.le_refl _) (by unfold maxLen; simp) rfl) a' c' out rfl ((unhide HO).below (bstep (bstep (unhide HT9).b hx6) (ballo _ _))) hnb (by simp only [List.length_nil]; omega) (by simp) ?_; rw [List.nil_append]; intro v7 w11 ho7 hb7 _; have hx7 : Below w10.heap.size w10 w11 := (ballo w10 _).trans hb7; have z7 := hx7.size; obtain ⟨a11, c11, rfl, hn7, hl7, hm7, hr7, hbk7⟩ := ho7.shape) | (at_builtin; refine wpl_pushU rfl (.tmp 134) (.tmp 138) rfl w9.heap.size _ p.os rfl ((ho6.grown hx7).grown (ballo _ _)) (some ⟨w11.heap.size, 0, none⟩) 1 [⟨out, a11, c11⟩] rfl (RdLs.lit1 w11 hr7 hn7 hl7 hm7) (fun e => by cases e) (fun x hx hn y hy e => by obtain rfl := List.mem_singleton.1 hx; have h3 := (hbk7 y hy).1; have h4 := (World.ownsRow.lt ho6.top _ e).2; omega) (by simp only [List.length_singleton]; omega) (by simp; omega) ?_; intro v8 w12 ho8 hb8 hg8; have hx8 : Below w9.heap.size w9 w12 := ((bstep hx6 hx7).trans ((ballo w11 _).mono (by omega))).trans hb8; have k8 := ((unhide HT9).below hx8).c.p8; have g8 := ((unhide HT9).below hx8).fb 8; obtain ⟨a12, c12, rfl, -, hnn8⟩ := ho8.rd))
            have T8 := (unhide HT9).below hx8
            have T9 := T8.s8 (p.os ++ [⟨out, a11, c11⟩]) a12 c12
            have G8 := (unhide HFG9).below hx8
            have W8 : RdX w p w12 a12 (p.os ++ [⟨out, a11, c11⟩]) := RdX.ofU ho8 (by have := (unhide HT9).lt; omega) (fun x hx => by
              have hz := (unhide HT9).lt
              rcases List.mem_append.1 hx with hx' | hx'
              · exact fun X hX hS wz hzz => (hS wz (xx_down (bstep (unhide HT9).b hx8) hzz)).os.row x hx'
              · obtain rfl := List.mem_singleton.1 hx'
                exact RwX.new (ho8.row _ hx) fun q hq => by have := (hbk7 q hq).1; omega)
            have N8 : a12 ≠ none := fun e => by have := (hnn8 e).1; simp at this
            have hl8 : (p.os ++ [(⟨out, a11, c11⟩ : La)]).length = p.os.length + 1 := by simp
            rw [hl8] at T9
            change Code.wp _ _ _ _ (w12.setCell ⟨w.heap.size, 8, none⟩ (.slice a12 (p.os.length + 1) c12))
            have W9 := W8.set (.inl rfl) (i := 8) (.slice a12 (p.os.length + 1) c12)
            have G9 := G8.set (.inl rfl) (i := 8) (.slice a12 (p.os.length + 1) c12)
            have HFWx := ((unhide HFW9).below hx8).set (.inl rfl) (i := 8) (.slice a12 (p.os.length + 1) c12)
            generalize w12.setCell ⟨w.heap.size, 8, none⟩ (.slice a12 (p.os.length + 1) c12) = w13 at *
            have HT13 := hide T9
            have HFO := hide W9
            have HFG := hide G9
            have HFW := hide HFWx
            have HCK2 : Hid (Cok { p with bg := fr, ab := some ad, cb := cf, ws := p.ws ++ [⟨v, a7, c7⟩], aw := a8, cw := c8, os := p.os ++ [⟨out, a11, c11⟩], ao := a12, co := c12 }) := ⟨⟨ad, rfl⟩, fun e => absurd e (unhide HN8), fun e => absurd e N8⟩
            clear HFWx T8 T9 G8 W8 W9 G9 N8 HT9 HFG9 HFW9 HN8 ho6 hb6 hg6 hx6 z6 ho7 hb7 hx7 z7 hn7 hl7 hm7 hr7 hbk7 ho8 hb8 hg8 hx8 hnn8 hl8 k8
            have hkd2 : p.kind = 2 → out.length = v.length := fun k2 => by
              rcases hkd with k1 | ⟨-, q⟩
              · rw [k1] at k2; cases k2
              · exact q
            have TB := unhide HT13
            have hlB := TB.lt
            have HRR : ∀ X : Nat → Prop, (∀ j, X j → j < w.heap.size) → (∀ wz, Bx X w wz → RdC wz p) → ∀ wz, Bx (XX w X) w13 wz → RdC wz { p with bg := fr, ab := some ad, cb := cf, ws := p.ws ++ [⟨v, a7, c7⟩], aw := a8, cw := c8, os := p.os ++ [⟨out, a11, c11⟩], ao := a12, co := c12 } := fun X hX hS wz h9 => by
              refine ⟨unhide HFW X hX hS wz h9, unhide HFO X hX hS wz h9, unhide HFG X hX hS wz h9, ?_, ?_, ?_, ?_⟩
              · show (p.os ++ [_]).length = (p.ws ++ [_]).length
                simp [hr.len]
              · intro k2 i h h'
                by_cases hi : i < p.ws.length
                · have := hr.fit k2 i hi (by rw [hr.len]; exact hi)
                  rw [List.getElem_append_left (by rw [hr.len]; exact hi), List.getElem_append_left hi]
                  exact this
                · have hiw : i = p.ws.length := by
                    have : i < (p.ws ++ [(⟨v, a7, c7⟩ : La)]).length := h
                    rw [List.length_append, List.length_singleton] at this; omega
                  subst hiw
                  have e1 : (p.os ++ [(⟨out, a11, c11⟩ : La)])[p.ws.length]'h' = ⟨out, a11, c11⟩ := by
                    rw [List.getElem_append_right (by rw [hr.len]; exact Nat.le_refl _)]
                    simp
                  have e2 : (p.ws ++ [(⟨v, a7, c7⟩ : La)])[p.ws.length]'h = ⟨v, a7, c7⟩ := by
                    rw [List.getElem_append_right (Nat.le_refl _)]
                    simp
                  show ((p.os ++ [(⟨out, a11, c11⟩ : La)])[p.ws.length]'h').l.length = ((p.ws ++ [(⟨v, a7, c7⟩ : La)])[p.ws.length]'h).l.length
                  rw [e1, e2]
                  exact hkd2 k2
              · show (p.ws ++ [_]).length ≤ 1000000
                rw [List.length_append, List.length_singleton]; omega
              · show fr.length ≤ 100000000
                omega
            have HPP : Hid (∀ w9, (∀ X, Bx (XX w X) w13 w9) → Below w.heap.size w w9 → PkPost w p (putV p.cs v out) (.returned (.tuple #[cvV { p with bg := fr, ab := some ad, cb := cf, ws := p.ws ++ [⟨v, a7, c7⟩], aw := a8, cw := c8, os := p.os ++ [⟨out, a11, c11⟩], ao := a12, co := c12 }, .int .i64 0])) w9) := fun w9 h9 hb9 => by
              refine ⟨_, by rw [unhide HE], ?_, HRR (fun _ => False) (fun _ q => q.elim) (fun wz hz => hr.below (hz.below (fun _ q => q.elim) (Nat.le_refl _))) w9 (h9 _), unhide HCK2, hb9, fun X hX hS wz hz => HRR X hX hS wz ((h9 X).trans hz fun _ _ q => .inl q)⟩
              rw [unhide HE, ← unhide HFE]
              show Cs.mk _ _ _ _ (laL (p.ws ++ [⟨v, a7, c7⟩])) (laL (p.os ++ [⟨out, a11, c11⟩])) (laL fr) _ _ = _
              unfold laL
              simp [Cv.cs, laL]
            clear HRR
            clear HFW HFO HFG HCK2 HT13
            generalize p.ws ++ [(⟨v, a7, c7⟩ : La)] = ws2 at *
            generalize p.os ++ [(⟨out, a11, c11⟩ : La)] = os2 at *
            obtain ⟨y0, y1, y2, y3, y4, y5, y6, y7, y8, y9, y10, y11⟩ := TB.z
            obtain ⟨p0, p1, p2, p3, p4, p5, p6, p7, p8, p9, p10, p11⟩ := TB.c
            have q0 := TB.f 0
            have q1 := TB.f 1
            have q2 := TB.f 2
            have q3 := TB.f 3
            have q4 := TB.f 4
            have q5 := TB.f 5
            have q6 := TB.f 6
            have q7 := TB.f 7
            have q8 := TB.f 8
            have q9 := TB.f 9
            have q10 := TB.f 10
            have q11 := TB.f 11
            dsimp only [cv0, List.length_nil] at y0 y1 y2 y3 y4 y5 y6 y7 y8 y9 y10 y11
            go_wp2
            clear y0 y1 y2 y3 y4 y5 y6 y7 y8 y9 y10 y11 p0 p1 p2 p3 p4 p5 p6 p7 p8 p9 p10 p11 q0 q1 q2 q3 q4 q5 q6 q7 q8 q9 q10 q11
            change bodyPost _ _ _ _ _ (dozen w13 (w.heap.size + 1) { p with bg := fr, ab := some ad, cb := cf, ws := ws2, aw := a8, cw := c8, os := os2, ao := a12, co := c12 })
            have Z3 := TB.z.set { p with bg := fr, ab := some ad, cb := cf, ws := ws2, aw := a8, cw := c8, os := os2, ao := a12, co := c12 }
            have b3 := dozen_below TB.b (b := w.heap.size + 1) (by omega) { p with bg := fr, ab := some ad, cb := cf, ws := ws2, aw := a8, cw := c8, os := os2, ao := a12, co := c12 }
            have hlow := (fun w9 (e9 : w9 = dozen w13 (w.heap.size + 1) ({ p with bg := fr, ab := some ad, cb := cf, ws := ws2, aw := a8, cw := c8, os := os2, ao := a12, co := c12 })) => unhide HPP w9 (fun X => by rw [e9]; exact dozen_bx _ _ _ X) (by rw [e9]; exact b3))
            generalize dozen w13 (w.heap.size + 1) { p with bg := fr, ab := some ad, cb := cf, ws := ws2, aw := a8, cw := c8, os := os2, ao := a12, co := c12 } = w9 at *
            obtain ⟨z0, z1, z2, z3, z4, z5, z6, z7, z8, z9, z10, z11⟩ := Z3
            refine bodyPost_ret (v := .tuple #[cvV ({ p with bg := fr, ab := some ad, cb := cf, ws := ws2, aw := a8, cw := c8, os := os2, ao := a12, co := c12 }), .int .i64 (0)]) ?_ rfl (hlow w9 rfl)
            simp [results, Try.results16, go_sem, cvV, z0, z1, z2, z3, z4, z5, z6, z7, z8, z9, z10, z11]
    have hlt' : (I : Int) ≤ (v.length : Int) := by omega
    have hIc : (I : Int) ≤ (c : Int) := by omega
    have HTL := hide (take_len hlt)
    have hbd : Below wr.heap.size wr wr.drew := (Below.refl _ _).drew
    have HBD := hide hbd
    have hfd := unhide HFD wr.drew (bstep (unhide HTr).b hbd) I
    rw [unhide HTL] at hfd
    unfold cvV FdPost laV at hfd
    have HKP : Hid (∀ wz, Below wr.heap.size wr wz → (wz.cell? ⟨w.heap.size, 0, none⟩ = some (.int .i64 p.kind) ∧ wz.cell? ⟨w.heap.size, 1, none⟩ = some (.int .i64 p.k) ∧ wz.cell? ⟨w.heap.size, 2, none⟩ = some (.int .i64 p.o) ∧ wz.cell? ⟨w.heap.size, 3, none⟩ = some (.int .i64 0) ∧ wz.cell? ⟨w.heap.size, 4, none⟩ = some (.slice none 0 0) ∧ wz.cell? ⟨w.heap.size, 5, none⟩ = some (.slice none 0 0) ∧ wz.cell? ⟨w.heap.size, 6, none⟩ = some (.int .i64 p.most) ∧ wz.cell? ⟨w.heap.size, 7, none⟩ = some (.slice p.aw p.ws.length p.cw) ∧ wz.cell? ⟨w.heap.size, 8, none⟩ = some (.slice p.ao p.os.length p.co) ∧ wz.cell? ⟨w.heap.size, 9, none⟩ = some (.slice p.ab p.bg.length p.cb) ∧ wz.cell? ⟨w.heap.size, 10, none⟩ = some (.int .i64 p.hits) ∧ wz.cell? ⟨w.heap.size, 11, none⟩ = some (.int .i64 p.miss))) := fun wz hz => by
      obtain ⟨p0, p1, p2, p3, p4, p5, p6, p7, p8, p9, p10, p11⟩ := ((unhide HTr).below hz).c
      exact ⟨p0, p1, p2, p3, p4, p5, p6, p7, p8, p9, p10, p11⟩
    have hs0 := unhide HKP wr.drew hbd
    clear hbd
    have HFN : Hid (∀ b : Bool, clsA p.cs v out I = b → b = false → ∀ j, j < I + 1 → clsA p.cs v out j = false) := fun b e eb j hj => by
      by_cases c : j = I
      · subst c; rw [e, eb]
      · exact unhide HN j (by omega)
    go_wp2
    go_region_held (fun wz => wz.cell? ⟨w.heap.size, 0, none⟩ = some (.int .i64 p.kind) ∧ wz.cell? ⟨w.heap.size, 1, none⟩ = some (.int .i64 p.k) ∧ wz.cell? ⟨w.heap.size, 2, none⟩ = some (.int .i64 p.o) ∧ wz.cell? ⟨w.heap.size, 3, none⟩ = some (.int .i64 0) ∧ wz.cell? ⟨w.heap.size, 4, none⟩ = some (.slice none 0 0) ∧ wz.cell? ⟨w.heap.size, 5, none⟩ = some (.slice none 0 0) ∧ wz.cell? ⟨w.heap.size, 6, none⟩ = some (.int .i64 p.most) ∧ wz.cell? ⟨w.heap.size, 7, none⟩ = some (.slice p.aw p.ws.length p.cw) ∧ wz.cell? ⟨w.heap.size, 8, none⟩ = some (.slice p.ao p.os.length p.co) ∧ wz.cell? ⟨w.heap.size, 9, none⟩ = some (.slice p.ab p.bg.length p.cb) ∧ wz.cell? ⟨w.heap.size, 10, none⟩ = some (.int .i64 p.hits) ∧ wz.cell? ⟨w.heap.size, 11, none⟩ = some (.int .i64 p.miss)) (first | exact hsA | exact hs0) (first | (go_at_call 18; refine hfd.mono ?_; rintro e wA ⟨x, rfl, hxl, hxo, hbA⟩; have hbA2 := bstep (unhide HBD) hbA; have hsA := unhide HKP wA hbA2))
    have HTA := hide ((unhide HTr).below hbA2)
    have HXO := hide hxo
    have HXL := hide hxl
    clear hfd HFD hs0 hsA hbA hbA2 HKP HTr hxl hxo HBD HT2
    generalize hff : findV p.cs (v.take I) = f at *
    have HFF := hide hff
    clear hff
    cases f with
    | none =>
      have HNN := hide (unhide HFN _ rfl (clsA_none (unhide HFF)))
      dsimp only [Option.getD_none, Option.isSome_none, List.length_nil]
      obtain ⟨p0, -, -, -, -, -, -, -, -, -, -, -⟩ := (unhide HTA).c
      rcases hkd with hk | ⟨hk, hol⟩
      · have q1 : (p.kind == 1) = true := by simpa using hk
        have q2 : (p.kind == 2) = false := by simp [hk]
        clear hk
        by_cases hIl : I = v.length
        · have q3 : ((I : Int) == (v.length : Int)) = true := by simp [hIl]
          clear hIl
          go_wp2
          go_roundw
          case rel => exact ⟨I + 1, by go_num, by omega, HTA, HNN⟩
          case measure => simp [intOf]; omega
        · have q3 : ((I : Int) == (v.length : Int)) = false := beq_eq_false_iff_ne.2 (by omega)
          go_wp2
          go_roundw
          case rel => exact ⟨I + 1, by go_num, by omega, HTA, HNN⟩
          case measure => simp [intOf]; omega
      · have q1 : (p.kind == 1) = false := by simp [hk]
        have q2 : (p.kind == 2) = true := by simpa using hk
        clear hk hol
        go_wp2
        go_roundw
        case rel => exact ⟨I + 1, by go_num, by omega, HTA, HNN⟩
        case measure => simp [intOf]; omega
    | some y =>
      dsimp only [Option.getD_some, Option.isSome_some] at HXL ⊢
      obtain ⟨p0, -, -, -, -, -, -, -, -, -, -, -⟩ := (unhide HTA).c
      have hyl : y.length ≤ maxLen := by rw [← unhide HXL]; exact (unhide HXO).len
      have HRX : Hid (RdL .i64 wA x.a y) := by rw [← unhide HXL]; exact (unhide HXO).rd
      rcases hkd with hk | ⟨hk, hol⟩
      · have HCA := hide ((clsA_some (out := out) (unhide HFF)).trans (by simp [show p.cs.kind = 1 from hk] : _ = (decide (I = v.length) && !decide (y = out))))
        have q1 : (p.kind == 1) = true := by simpa using hk
        have q2 : (p.kind == 2) = false := by simp [hk]
        clear hk
        by_cases hIl : I = v.length
        · have q3 : ((I : Int) == (v.length : Int)) = true := by simp [hIl]
          have hsm := same_list x.a a' x.c c' y out wA (unhide HRX) ((unhide HO).below (unhide HTA).b) hyl
          by_cases hyo : y = out
          · have HNN := hide (unhide HFN _ rfl ((unhide HCA).trans (by simp [hIl, hyo])))
            rw [decide_eq_true hyo] at hsm
            clear hyo hIl
            go_wp2_with fail
            refine hsm.mono ?_
            rintro e wB ⟨rfl, hbB⟩
            have HTB := hide ((unhide HTA).below hbB)
            clear p0 hsm
            obtain ⟨p0, -, -, -, -, -, -, -, -, -, -, -⟩ := (unhide HTB).c
            go_wp2
            go_roundw
            case rel => exact ⟨I + 1, by go_num, by omega, HTB, HNN⟩
            case measure => simp [intOf]; omega
          · exact absurd (cls_at hlt ((unhide HCA).trans (by simp [hIl, hyo]))) (by rw [unhide H3]; simp)
        · have q3 : ((I : Int) == (v.length : Int)) = false := beq_eq_false_iff_ne.2 (by omega)
          have HNN := hide (unhide HFN _ rfl ((unhide HCA).trans (by simp [hIl])))
          go_wp2
          go_roundw
          case rel => exact ⟨I + 1, by go_num, by omega, HTA, HNN⟩
          case measure => simp [intOf]; omega
      · have HCA := hide ((clsA_some (out := out) (unhide HFF)).trans (by simp [show p.cs.kind = 2 from hk] : _ = !decide (y = out.take I)))
        have q1 : (p.kind == 1) = false := by simp [hk]
        have q2 : (p.kind == 2) = true := by simpa using hk
        clear hk
        have hIo : I ≤ out.length := by omega
        have hIo' : (I : Int) ≤ (c' : Int) := by omega
        have HTO := hide (take_len hIo)
        have hsm := same_list x.a a' x.c c' y (out.take I) wA (unhide HRX) (((unhide HO).below (unhide HTA).b).take I) hyl
        rw [unhide HTO] at hsm
        clear hol
        by_cases hyo : y = out.take I
        · have HNN := hide (unhide HFN _ rfl ((unhide HCA).trans (by simp [hyo])))
          rw [decide_eq_true hyo] at hsm
          clear hyo
          go_wp2_with fail
          refine hsm.mono ?_
          rintro e wB ⟨rfl, hbB⟩
          have HTB := hide ((unhide HTA).below hbB)
          clear p0 hsm
          go_wp2
          go_roundw
          case rel => exact ⟨I + 1, by go_num, by omega, HTB, HNN⟩
          case measure => simp [intOf]; omega
        · exact absurd (cls_at hlt ((unhide HCA).trans (by simp [hyo]))) (by rw [unhide H3]; simp)


end Go.Proofs.Ytemalidanjfmkaa
