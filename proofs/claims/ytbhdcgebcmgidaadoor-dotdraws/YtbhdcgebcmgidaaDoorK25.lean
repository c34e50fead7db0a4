/-
  Some texts of this seat, one behind the other.
-/
import Derived.Deep.CutRange
import Derived.Laws.EntriesVeiled
import Derived.Test.YtbhdcgebcmgidaaDoorK23
/-
  newWriter's first statement, whose order is open: the writer is made.
-/
namespace Go.Proofs.YtbhdcgebcmgidaaDoor
open Go.RowKit

/-- The zero writer's cells. -/
def zW : List Value := [.int .i64 0, .int .i64 0, .int .i64 0, .int .i64 0, .slice none 0 0, .slice none 0 0, .nilFunc, .nilFunc]
/-- Eight cells written. -/
def eight (w : World) (b : Nat) (c0 c1 c2 c3 c4 c5 c6 c7 : Value) : World := (((((((w.setCell ⟨b, 0, none⟩ c0).setCell ⟨b, 1, none⟩ c1).setCell ⟨b, 2, none⟩ c2).setCell ⟨b, 3, none⟩ c3).setCell ⟨b, 4, none⟩ c4).setCell ⟨b, 5, none⟩ c5).setCell ⟨b, 6, none⟩ c6).setCell ⟨b, 7, none⟩ c7
theorem Bk.eight {w : World} {b : Nat} {z0 z1 z2 z3 z4 z5 z6 z7 : Value} {t : TypeId} (h : Bk w b [z0, z1, z2, z3, z4, z5, z6, z7] t) (c0 c1 c2 c3 c4 c5 c6 c7 : Value) : Bk (Go.Proofs.YtbhdcgebcmgidaaDoor.eight w b c0 c1 c2 c3 c4 c5 c6 c7) b [c0, c1, c2, c3, c4, c5, c6, c7] t :=
  (((((((h.set 0 c0).set 1 c1).set 2 c2).set 3 c3).set 4 c4).set 5 c5).set 6 c6).set 7 c7
theorem eight_other {w : World} {b k : Nat} (h : k ≠ b) (c0 c1 c2 c3 c4 c5 c6 c7 : Value) : (eight w b c0 c1 c2 c3 c4 c5 c6 c7).heap[k]? = w.heap[k]? := by
  unfold eight
  exact (Below.heap_setCell _ ⟨b, 7, none⟩ _ k h).trans ((Below.heap_setCell _ ⟨b, 6, none⟩ _ k h).trans ((Below.heap_setCell _ ⟨b, 5, none⟩ _ k h).trans ((Below.heap_setCell _ ⟨b, 4, none⟩ _ k h).trans ((Below.heap_setCell _ ⟨b, 3, none⟩ _ k h).trans ((Below.heap_setCell _ ⟨b, 2, none⟩ _ k h).trans ((Below.heap_setCell _ ⟨b, 1, none⟩ _ k h).trans (Below.heap_setCell _ ⟨b, 0, none⟩ _ k h)))))))
theorem eight_below {w : World} {b N : Nat} (h : N ≤ b) (c0 c1 c2 c3 c4 c5 c6 c7 : Value) : Below N w (eight w b c0 c1 c2 c3 c4 c5 c6 c7) := by
  unfold eight
  exact ((((((((Below.refl N w).setCell (p := ⟨b, 0, none⟩) h _).setCell (p := ⟨b, 1, none⟩) h _).setCell (p := ⟨b, 2, none⟩) h _).setCell (p := ⟨b, 3, none⟩) h _).setCell (p := ⟨b, 4, none⟩) h _).setCell (p := ⟨b, 5, none⟩) h _).setCell (p := ⟨b, 6, none⟩) h _).setCell (p := ⟨b, 7, none⟩) h _
theorem Bk.other {w w' : World} {k : Nat} {cs : List Value} {t : TypeId} (h : Bk w k cs t) (e : w'.heap[k]? = w.heap[k]?) : Bk w' k cs t := e.trans h
theorem store8 {w : World} {b : Nat} (h : Bk w b zW 52) (m : Mc) (a1 : Option Addr) (c1 : Nat) (a2 : Option Addr) (c2 : Nat) (f g : Nat) (l k : Array Value) : (Instr.storeAt 52 (.pointer (some ⟨b, 0, none⟩)) (wrV m a1 c1 a2 c2 (.func (.func f) #[] l) (.func (.func g) #[] k))).run Tryd.prog w = .ok () (eight w b (.int .i64 m.kind) (.int .i64 m.k) (.int .i64 m.o) (.int .i64 m.n) (.slice a1 m.nx.length c1) (.slice a2 m.out.length c2) (.func (.func f) #[] l) (.func (.func g) #[] k)) := by
  have p0 := h.cell 0
  have p1 := h.cell 1
  have p2 := h.cell 2
  have p3 := h.cell 3
  have p4 := h.cell 4
  have p5 := h.cell 5
  have p6 := h.cell 6
  have p7 := h.cell 7
  have f0 := h.frozen 0
  have f1 := h.frozen 1
  have f2 := h.frozen 2
  have f3 := h.frozen 3
  have f4 := h.frozen 4
  have f5 := h.frozen 5
  have f6 := h.frozen 6
  have f7 := h.frozen 7
  simp only [zW, List.getElem?_cons_succ, List.getElem?_cons_zero] at p0 p1 p2 p3 p4 p5 p6 p7
  unfold wrV eight
  go_simp
theorem alloc8 (w : World) : (Instr.alloc 52 true (.tuple #[])).run Tryd.prog w = .ok (.pointer (some ⟨w.heap.size, 0, none⟩)) (w.alloc (.cells zW.toArray 52)) := by
  unfold zW
  go_simp
theorem loadMc {w : World} {b : Nat} {m : Mc} {a1 : Option Addr} {c1 : Nat} {a2 : Option Addr} {c2 : Nat} (h : Bk w b (mC m a1 c1 a2 c2) 24) : (Instr.loadAt 24 (.pointer (some ⟨b, 0, none⟩))).run Tryd.prog w = .ok (mval m a1 c1 a2 c2) w := by
  have p0 := h.cell 0
  have p1 := h.cell 1
  have p2 := h.cell 2
  have p3 := h.cell 3
  have p4 := h.cell 4
  have p5 := h.cell 5
  simp only [mC, List.getElem?_cons_succ, List.getElem?_cons_zero] at p0 p1 p2 p3 p4 p5
  unfold mval
  go_simp
theorem buildW {w : World} (m : Mc) (a1 : Option Addr) (c1 : Nat) (a2 : Option Addr) (c2 : Nat) (f g : Fn) (l k : Array Value) : (Instr.build 52 #[(0, mval m a1 c1 a2 c2), (1, .func f #[] l), (2, .func g #[] k)]).run Tryd.prog w = .ok (wrV m a1 c1 a2 c2 (.func f #[] l) (.func g #[] k)) w := by
  unfold mval wrV
  go_simp
/-- The function that names ways. -/
def IsN (N : Nat) (m : Mc) (a1 : Option Addr) (c1 : Nat) (a2 : Option Addr) (c2 : Nat) (lv v : Value) (W : World) : Prop := ∃ x1 x2, v = .func (.func 41) #[] #[ptr x2, ptr x1] ∧ N ≤ x1 ∧ N ≤ x2 ∧ Bk W x1 (mC m a1 c1 a2 c2) 24 ∧ Bk W x2 [lv] 47
theorem IsN.below {N : Nat} {m : Mc} {a1 : Option Addr} {c1 : Nat} {a2 : Option Addr} {c2 : Nat} {lv v : Value} {W W' : World} (h : IsN N m a1 c1 a2 c2 lv v W) (hb : Below W.heap.size W W') : IsN N m a1 c1 a2 c2 lv v W' := by
  obtain ⟨x1, x2, e, h1, h2, h3, h4⟩ := h; exact ⟨x1, x2, e, h1, h2, h3.below hb, h4.below hb⟩
abbrev plV : Value := .func (.func 28) #[] #[]
/-- What each operation yields. -/
def NT (N : Nat) (m : Mc) (a1 : Option Addr) (c1 : Nat) (a2 : Option Addr) (c2 : Nat) (lv : Value) : Nat → Value → World → Prop
  | 0, v, _ => v = mval m a1 c1 a2 c2
  | 1, v, _ => v = mval m a1 c1 a2 c2
  | 2, v, _ => v = lv
  | 3, v, W => IsN N m a1 c1 a2 c2 lv v W
  | 4, v, W => ∃ u, v = wrV m a1 c1 a2 c2 plV u ∧ IsN N m a1 c1 a2 c2 lv u W
  | _, v, W => ∃ b, v = ptr b ∧ N ≤ b ∧ Bk W b zW 52
theorem NT.below {N : Nat} {m : Mc} {a1 : Option Addr} {c1 : Nat} {a2 : Option Addr} {c2 : Nat} {lv v : Value} {W W' : World} (hb : Below W.heap.size W W') : ∀ {i : Nat}, NT N m a1 c1 a2 c2 lv i v W → NT N m a1 c1 a2 c2 lv i v W'
  | 0, h => h
  | 1, h => h
  | 2, h => h
  | 3, h => IsN.below h hb
  | 4, ⟨u, e, h⟩ => ⟨u, e, h.below hb⟩
  | _ + 5, ⟨b, e, h1, h2⟩ => ⟨b, e, h1, h2.below hb⟩

def nw0 : Oper := { dst := some 6, op := Op.load 24 (Operand.tmp 2), type := 24, pos := "write.go:21", after := #[], guard := none }
def nw1 : Oper := { dst := some 7, op := Op.load 24 (Operand.tmp 2), type := 24, pos := "write.go:21", after := #[], guard := none }
def nw2 : Oper := { dst := some 8, op := Op.move (Operand.tmp 1), type := 47, pos := "write.go:21", after := #[], guard := none }
def nw3 : Oper := { dst := some 9, op := Op.call { callee := Callee.value (Operand.func 29), args := #[Operand.tmp 7, Operand.tmp 8], argTypes := #[24, 47] }, type := 50, pos := "write.go:21", after := #[{ on := 1, ground := Ground.data }, { on := 2, ground := Ground.data }], guard := none }
def nw4 : Oper := { dst := some 10, op := Op.build 52 #[(0, Operand.tmp 6), (1, Operand.func 28), (2, Operand.tmp 9)], type := 52, pos := "write.go:21", after := #[{ on := 0, ground := Ground.data }, { on := 3, ground := Ground.data }], guard := none }
def nw5 : Oper := { dst := some 5, op := Op.alloc 52, type := 0, pos := "write.go:21", after := #[], guard := none }
def nw6 : Oper := { dst := none, op := Op.store 52 (Operand.tmp 5) (Operand.tmp 10), type := 0, pos := "write.go:21", after := #[{ on := 5, ground := Ground.data }, { on := 4, ground := Ground.data }, { on := 3, ground := Ground.chain }, { on := 0, ground := Ground.phase }, { on := 1, ground := Ground.phase }, { on := 2, ground := Ground.phase }, { on := 3, ground := Ground.phase }, { on := 4, ground := Ground.phase }, { on := 5, ground := Ground.phase }], guard := none }
def nwOps : Array Oper := #[nw0, nw1, nw2, nw3, nw4, nw5, nw6]

set_option maxRecDepth 100000 in
set_option maxHeartbeats 2000000 in
theorem nw_region {Q : Exit → Act → World → Prop} (a0 : Act) (W : World) (N bx p K : Nat) (m : Mc) (a1 : Option Addr) (c1 : Nat) (a2 : Option Addr) (c2 : Nat) (hsz : a0.tmps.size = 25)
    (e1 : a0.eval (.tmp 1) = .slice (some ⟨p, 0, none⟩) K K) (e2 : a0.eval (.tmp 2) = ptr bx) (hb : Bk W bx (mC m a1 c1 a2 c2) 24) (hN : N ≤ W.heap.size) (hNb : W.heap.size ≤ N)
    (fin : ∀ a X b u, Below W.heap.size W X → a.tmps.size = 25 → a.defers = a0.defers → (∀ t, (∀ j, j < 6 → [6, 7, 8, 9, 10, 5].getD j 0 ≠ t) → a.eval (.tmp t) = a0.eval (.tmp t)) → a.eval (.tmp 5) = ptr b → N ≤ b → Bk X b (wrC m a1 c1 a2 c2 plV u) 52 → IsN N m a1 c1 a2 c2 (.slice (some ⟨p, 0, none⟩) K K) u X → Q .normal a X) : (Code.region 1 nwOps true).wp Tryd.prog Q a0 W := by
  refine wp_region_last (by kernel_rfl) a0 W 6 (fun i => [6, 7, 8, 9, 10, 5].getD i 0) (NT N m a1 c1 a2 c2 (.slice (some ⟨p, 0, none⟩) K K))
    (fun a X => ∃ b u, Below W.heap.size W X ∧ a.tmps.size = 25 ∧ a.defers = a0.defers ∧ (∀ t, (∀ j, j < 6 → [6, 7, 8, 9, 10, 5].getD j 0 ≠ t) → a.eval (.tmp t) = a0.eval (.tmp t)) ∧ a.eval (.tmp 5) = ptr b ∧ N ≤ b ∧ Bk X b (wrC m a1 c1 a2 c2 plV u) 52 ∧ IsN N m a1 c1 a2 c2 (.slice (some ⟨p, 0, none⟩) K K) u X) nw6
    rfl rfl rfl (by decide) (by decide) (fun _ _ _ _ h hb => h.below hb) (by decide) (by rw [hsz]; decide) ?_ ?_ ?_ ?_
  · intro i o hi ho
    rcases (by omega : i = 0 ∨ i = 1 ∨ i = 2 ∨ i = 3 ∨ i = 4 ∨ i = 5) with rfl | rfl | rfl | rfl | rfl | rfl <;> (cases Option.some.inj ho; exact ⟨rfl, rfl, by decide⟩)
  · intro j o hj ho a X E haft KK hKK
    replace e1 : a.eval (.tmp 1) = .slice (some ⟨p, 0, none⟩) K K := (E.ag 1 (by decide)).trans e1
    replace e2 : a.eval (.tmp 2) = ptr bx := (E.ag 2 (by decide)).trans e2
    have r := Below.refl X.heap.size X
    have bl := E.bl
    have hNX : N ≤ X.heap.size := Nat.le_trans hN bl.size
    clear E
    have hbX := hb.below bl
    rcases (by omega : j = 0 ∨ j = 1 ∨ j = 2 ∨ j = 3 ∨ j = 4 ∨ j = 5) with rfl | rfl | rfl | rfl | rfl | rfl
    · obtain rfl : nw0 = o := Option.some.inj ho
      exact wp_valueZ (v := mval m a1 c1 a2 c2) (w' := X) (by simp [execOp, nw0, e2, loadMc hbX]) (hKK _ _ r rfl)
    · obtain rfl : nw1 = o := Option.some.inj ho
      exact wp_valueZ (v := mval m a1 c1 a2 c2) (w' := X) (by simp [execOp, nw1, e2, loadMc hbX]) (hKK _ _ r rfl)
    · obtain rfl : nw2 = o := Option.some.inj ho
      exact wp_valueZ (v := .slice (some ⟨p, 0, none⟩) K K) (w' := X) (by simp [execOp, nw2, e1]) (hKK _ _ r rfl)
    · obtain rfl : nw3 = o := Option.some.inj ho
      have d0 : a.eval (.tmp 7) = mval m a1 c1 a2 c2 := haft ⟨1, .data⟩ (by simp [nw3]) rfl
      have d1 : a.eval (.tmp 8) = .slice (some ⟨p, 0, none⟩) K K := haft ⟨2, .data⟩ (by simp [nw3]) rfl
      have hc := byName_any m a1 c1 a2 c2 (some ⟨p, 0, none⟩) K K X
      refine wp_enterZ (run_call2Z rfl (enters_of Tryd.func29 (by kernel_rfl) rfl) d0 d1) hc ?_
      rintro e X' ⟨rfl, rfl⟩
      have b2 := ballo X (.cells (mC m a1 c1 a2 c2).toArray 24)
      have b3 := ballo (X.alloc (.cells (mC m a1 c1 a2 c2).toArray 24)) (.cells #[.slice (some ⟨p, 0, none⟩) K K] 47)
      refine ⟨_, rfl, hKK _ _ (bstep b2 b3) ⟨_, _, rfl, hNX, Nat.le_succ_of_le hNX, (Bk.new X _ _).below b3, ?_⟩⟩
      have := Bk.new (X.alloc (.cells (mC m a1 c1 a2 c2).toArray 24)) [.slice (some ⟨p, 0, none⟩) K K] 47
      rw [World.size_alloc] at this
      exact this
    · obtain rfl : nw4 = o := Option.some.inj ho
      have d0 : a.eval (.tmp 6) = mval m a1 c1 a2 c2 := haft ⟨0, .data⟩ (by simp [nw4]) rfl
      have h3 : NT N m a1 c1 a2 c2 (.slice (some ⟨p, 0, none⟩) K K) 3 (a.eval (.tmp 9)) X := haft ⟨3, .data⟩ (by simp [nw4]) rfl
      have h3c := h3
      obtain ⟨x1, x2, d1, -⟩ := h3c
      refine wp_valueZ (v := wrV m a1 c1 a2 c2 plV (a.eval (.tmp 9))) (w' := X) ?_ (hKK _ _ r ⟨_, rfl, h3⟩)
      have ef : a.eval (.func 28) = plV := rfl
      rw [d1]
      simp [execOp, nw4, d0, d1, ef, buildW]
    · obtain rfl : nw5 = o := Option.some.inj ho
      exact wp_valueZ (v := ptr X.heap.size) (w' := X.alloc (.cells zW.toArray 52)) (by simp [execOp, nw5, alloc8]) (hKK _ _ (ballo X _) ⟨_, rfl, hNX, Bk.new X _ _⟩)
  · intro a X E KK hKK
    obtain ⟨u, d4, hu⟩ := E.vs 4 (by decide) trivial
    obtain ⟨b, d5, hNb', hzb⟩ := E.vs 5 (by decide) trivial
    have d4' : a.eval (.tmp 10) = wrV m a1 c1 a2 c2 plV u := d4
    have d5' : a.eval (.tmp 5) = ptr b := d5
    obtain ⟨x1, x2, rfl, hx1, hx2, k1, k2⟩ := hu
    have hrun := store8 hzb m a1 c1 a2 c2 28 41 #[] #[ptr x2, ptr x1]
    have hbx : x1 ≠ b := fun e => by
      rw [e] at k1
      have := k1.symm.trans hzb
      injection this with h; injection h with _ h; exact absurd h (by decide)
    have hbx2 : x2 ≠ b := fun e => by
      rw [e] at k2
      have := k2.symm.trans hzb
      injection this with h; injection h with _ h; exact absurd h (by decide)
    have hpost := hKK a _ ⟨b, _, E.bl.trans (eight_below (Nat.le_trans hNb hNb') _ _ _ _ _ _ _ _), E.sz.trans hsz, E.df, E.ag, d5', hNb', hzb.eight _ _ _ _ _ _ _ _, x1, x2, rfl, hx1, hx2, k1.other (eight_other hbx _ _ _ _ _ _ _ _), k2.other (eight_other hbx2 _ _ _ _ _ _ _ _)⟩
    unfold Oper.wp
    have e : (execOp a.eval nw6).run Tryd.prog X = .ok .skip (eight X b (.int .i64 m.kind) (.int .i64 m.k) (.int .i64 m.o) (.int .i64 m.n) (.slice a1 m.nx.length c1) (.slice a2 m.out.length c2) (.func (.func 28) #[] #[]) (.func (.func 41) #[] #[ptr x2, ptr x1])) := by
      simp [execOp, nw6, d4', d5', hrun]
    rw [e]
    exact hpost
  · rintro a X ⟨b, u, h1, h2, h3, h4, h5, h6, h7, h8⟩
    exact fin a X b u h1 h2 h3 h4 h5 h6 h7 h8

end Go.Proofs.YtbhdcgebcmgidaaDoor

/-
  newWriter: what its functions tell.
-/
namespace Go.Proofs.YtbhdcgebcmgidaaDoor
open Go.RowKit

theorem act_lit {a : Act} {l : List Value} {ds : List Deferred} (hs : a.tmps.size = l.length) (hd : a.defers = ds) (h : ∀ t, t < l.length → a.eval (.tmp t) = l.getD t undef) : a = { tmps := l.toArray, defers := ds } := by
  have e : a.tmps = l.toArray := by
    apply Array.ext
    · simpa using hs
    · intro i h1 h2
      have := h i (by omega)
      unfold Act.eval at this
      simp only [Array.getD_eq_getD_getElem?, Array.getElem?_eq_getElem h1, Option.getD_some, List.getD_eq_getElem?_getD] at this
      rw [this, List.getElem?_eq_getElem (by omega)]
      simp
  cases a
  simp only at e hd
  rw [e, hd]
theorem IsN.mono {N N' : Nat} {m : Mc} {a1 : Option Addr} {c1 : Nat} {a2 : Option Addr} {c2 : Nat} {lv v : Value} {W : World} (h : IsN N m a1 c1 a2 c2 lv v W) (hN : N' ≤ N) : IsN N' m a1 c1 a2 c2 lv v W := by
  obtain ⟨x1, x2, e, h1, h2, h3, h4⟩ := h; exact ⟨x1, x2, e, by omega, by omega, h3, h4⟩
theorem IsN.other {N : Nat} {m : Mc} {a1 : Option Addr} {c1 : Nat} {a2 : Option Addr} {c2 : Nat} {lv v : Value} {W W' : World} (h : IsN N m a1 c1 a2 c2 lv v W) (hk : ∀ k cs t, Bk W k cs t → t ≠ 52 → W'.heap[k]? = W.heap[k]?) : IsN N m a1 c1 a2 c2 lv v W' := by
  obtain ⟨x1, x2, e, h1, h2, h3, h4⟩ := h; exact ⟨x1, x2, e, h1, h2, h3.other (hk _ _ _ h3 (by decide)), h4.other (hk _ _ _ h4 (by decide))⟩
/-- A block of another type is another block. -/
theorem Bk.ne {W : World} {k b : Nat} {cs ds : List Value} {t s : TypeId} (h : Bk W k cs t) (h' : Bk W b ds s) (hts : t ≠ s) : k ≠ b := fun e => by
  rw [e] at h
  have := h.symm.trans h'
  injection this with h1; injection h1 with _ h2; exact hts h2


set_option maxRecDepth 100000 in
set_option maxHeartbeats 4000000 in
theorem newW_dfa (m : Mc) (a1 : Option Addr) (c1 : Nat) (a2 : Option Addr) (c2 p K : Nat) (w : World) (hk : m.kind = 1) :
    Calls Tryd.prog 18 #[mval m a1 c1 a2 c2, .slice (some ⟨p, 0, none⟩) K K] w fun e w' => ∃ u b1 b2, e = .returned (wrV m a1 c1 a2 c2 (.func (.func 42) #[] #[ptr b1, ptr b2]) u) ∧ Below w.heap.size w w' ∧ Bk w' b1 (mC m a1 c1 a2 c2) 24 ∧ Bk w' b2 [plV] 50 ∧ IsN w.heap.size m a1 c1 a2 c2 (.slice (some ⟨p, 0, none⟩) K K) u w' := by
  have hm0 := Bk.new w (mC m a1 c1 a2 c2) 24
  have ba := ballo w (.cells (mC m a1 c1 a2 c2).toArray 24)
  have bb := ballo (w.alloc (.cells (mC m a1 c1 a2 c2).toArray 24)) (.cells zW.toArray 52)
  have hz0 := Bk.new (w.alloc (.cells (mC m a1 c1 a2 c2).toArray 24)) zW 52
  rw [World.size_alloc] at hz0
  have HA := hide (bstep ba bb)
  have HM := hide (hm0.below bb)
  have HZ := hide hz0
  have H1 := hide hk
  clear hm0 ba bb hz0 hk
  have emv : mval m a1 c1 a2 c2 = .agg #[.int .i64 m.kind, .int .i64 m.k, .int .i64 m.o, .int .i64 m.n, .slice a1 m.nx.length c1, .slice a2 m.out.length c2] := rfl
  rw [emv]
  go_enter Tryd.func18, Tryd.ntmps18
  go_wp2
  go_cut [5] from 6 to 10 (fun v5 wx => ∃ b u, v5 = ptr b ∧ Below w.heap.size w wx ∧ Bk wx w.heap.size (mC m a1 c1 a2 c2) 24 ∧ Bk wx (w.heap.size + 1) zW 52 ∧ w.heap.size + 1 + 1 ≤ b ∧ Bk wx b (wrC m a1 c1 a2 c2 plV u) 52 ∧ IsN w.heap.size m a1 c1 a2 c2 (.slice (some ⟨p, 0, none⟩) K K) u wx)
  case first =>
    rename_i hJ hK
    refine nw_region _ _ (w.heap.size + 1 + 1) w.heap.size p K m a1 c1 a2 c2 rfl rfl rfl (unhide HM) (by simp) (by simp) ?_
    intro a X b u h1 h2 h3 h4 h5 h6 h7 h8
    refine hK a X (hJ a X ⟨a.eval (.tmp 5), a.eval (.tmp 6), a.eval (.tmp 7), a.eval (.tmp 8), a.eval (.tmp 9), a.eval (.tmp 10), ⟨b, u, h5, bstep (unhide HA) h1, (unhide HM).below h1, (unhide HZ).below h1, h6, h7, h8.mono (by omega)⟩, ?_⟩)
    refine act_lit h2 h3 fun t ht => ?_
    have ht' : t < 25 := ht
    rcases (by omega : t = 0 ∨ t = 1 ∨ t = 2 ∨ t = 3 ∨ t = 4 ∨ t = 5 ∨ t = 6 ∨ t = 7 ∨ t = 8 ∨ t = 9 ∨ t = 10 ∨ t = 11 ∨ t = 12 ∨ t = 13 ∨ t = 14 ∨ t = 15 ∨ t = 16 ∨ t = 17 ∨ t = 18 ∨ t = 19 ∨ t = 20 ∨ t = 21 ∨ t = 22 ∨ t = 23 ∨ t = 24) with rfl | rfl | rfl | rfl | rfl | rfl | rfl | rfl | rfl | rfl | rfl | rfl | rfl | rfl | rfl | rfl | rfl | rfl | rfl | rfl | rfl | rfl | rfl | rfl | rfl <;> first | rfl | exact h4 _ (by decide)
  case rest =>
    obtain ⟨b, u, rfl, hB, hM, hZ, hb, hW, x1, x2, rfl, hN⟩ := hcut
    have hk := unhide H1
    have m0 := hM.cell 0
    have m1 := hM.cell 1
    have m2 := hM.cell 2
    have m3 := hM.cell 3
    have m4 := hM.cell 4
    have m5 := hM.cell 5
    have s0 := hW.cell 6
    simp only [mC, wrC, List.getElem?_cons_succ, List.getElem?_cons_zero] at m0 m1 m2 m3 m4 m5 s0
    have t1 : (m.kind == 1) = true := by rw [hk]; rfl
    have hc := byOut_any m a1 c1 a2 c2 28 #[] wc
    rw [emv] at hc
    clear hk
    go_wp2_with fail
    refine hc.mono ?_
    rintro e X1 ⟨rfl, hX1⟩
    have bX : Below wc.heap.size wc X1 := by rw [hX1]; exact bstep (ballo _ _) (ballo _ _)
    have k1 : Bk X1 wc.heap.size (mC m a1 c1 a2 c2) 24 := by rw [hX1]; exact (Bk.new _ _ _).below (ballo _ _)
    have k2 : Bk X1 (wc.heap.size + 1) [plV] 50 := by
      have := Bk.new (wc.alloc (.cells (mC m a1 c1 a2 c2).toArray 24)) [plV] 50
      rw [World.size_alloc] at this
      rw [hX1]; exact this
    clear hX1 hc
    have hb1 := hW.below bX
    have hz1 := hZ.below bX
    have hb2 := hb1.set 6 (.func (.func 42) #[] #[ptr wc.heap.size, ptr (wc.heap.size + 1)])
    have hz2 : Bk (X1.setCell ⟨b, 6, none⟩ (.func (.func 42) #[] #[ptr wc.heap.size, ptr (wc.heap.size + 1)])) (w.heap.size + 1) zW 52 := hz1.other (Below.heap_setCell _ ⟨b, 6, none⟩ _ _ (show w.heap.size + 1 ≠ b by omega))
    have f6 := hb1.cell 6
    have g6 := hb1.frozen 6
    have p0 := hb2.cell 0
    have p1 := hb2.cell 1
    have p2 := hb2.cell 2
    have p3 := hb2.cell 3
    have p4 := hb2.cell 4
    have p5 := hb2.cell 5
    have p6 := hb2.cell 6
    have p7 := hb2.cell 7
    have z0 := hz2.cell 0
    have z1 := hz2.cell 1
    have z2 := hz2.cell 2
    have z3 := hz2.cell 3
    have z4 := hz2.cell 4
    have z5 := hz2.cell 5
    have z6 := hz2.cell 6
    have z7 := hz2.cell 7
    have y0 := hz2.frozen 0
    have y1 := hz2.frozen 1
    have y2 := hz2.frozen 2
    have y3 := hz2.frozen 3
    have y4 := hz2.frozen 4
    have y5 := hz2.frozen 5
    have y6 := hz2.frozen 6
    have y7 := hz2.frozen 7
    have hz3 := hz2.eight (.int .i64 m.kind) (.int .i64 m.k) (.int .i64 m.o) (.int .i64 m.n) (.slice a1 m.nx.length c1) (.slice a2 m.out.length c2) (.func (.func 42) #[] #[ptr wc.heap.size, ptr (wc.heap.size + 1)]) (.func (.func 41) #[] #[ptr x2, ptr x1])
    have r0 := hz3.cell 0
    have r1 := hz3.cell 1
    have r2 := hz3.cell 2
    have r3 := hz3.cell 3
    have r4 := hz3.cell 4
    have r5 := hz3.cell 5
    have r6 := hz3.cell 6
    have r7 := hz3.cell 7
    have hoth : ∀ k, k ≠ b → k ≠ w.heap.size + 1 → (eight (X1.setCell ⟨b, 6, none⟩ (.func (.func 42) #[] #[ptr wc.heap.size, ptr (wc.heap.size + 1)])) (w.heap.size + 1) (.int .i64 m.kind) (.int .i64 m.k) (.int .i64 m.o) (.int .i64 m.n) (.slice a1 m.nx.length c1) (.slice a2 m.out.length c2) (.func (.func 42) #[] #[ptr wc.heap.size, ptr (wc.heap.size + 1)]) (.func (.func 41) #[] #[ptr x2, ptr x1])).heap[k]? = X1.heap[k]? := fun k h1 h2 => (eight_other h2 _ _ _ _ _ _ _ _).trans (Below.heap_setCell _ ⟨b, 6, none⟩ _ k h1)
    have K1 := k1.other (hoth _ (k1.ne hb1 (by decide)) (k1.ne hz1 (by decide)))
    have K2 := k2.other (hoth _ (k2.ne hb1 (by decide)) (k2.ne hz1 (by decide)))
    have FN : IsN w.heap.size m a1 c1 a2 c2 (.slice (some ⟨p, 0, none⟩) K K) (.func (.func 41) #[] #[ptr x2, ptr x1]) _ := (IsN.below (⟨x1, x2, rfl, hN⟩ : IsN w.heap.size m a1 c1 a2 c2 (.slice (some ⟨p, 0, none⟩) K K) (.func (.func 41) #[] #[ptr x2, ptr x1]) wc) bX).other fun k cs t hk ht => hoth k (hk.ne hb1 ht) (hk.ne hz1 ht)
    have FB := (bstep hB bX).trans (((Below.refl w.heap.size X1).setCell (p := ⟨b, 6, none⟩) (show w.heap.size ≤ b by omega) (.func (.func 42) #[] #[ptr wc.heap.size, ptr (wc.heap.size + 1)])).trans (eight_below (b := w.heap.size + 1) (by omega) (.int .i64 m.kind) (.int .i64 m.k) (.int .i64 m.o) (.int .i64 m.n) (.slice a1 m.nx.length c1) (.slice a2 m.out.length c2) (.func (.func 42) #[] #[ptr wc.heap.size, ptr (wc.heap.size + 1)]) (.func (.func 41) #[] #[ptr x2, ptr x1])))
    clear hB hM hZ hW hN bX k1 k2 hb1 hz1 hb2 hz2 hz3 hoth m0 m1 m2 m3 m4 m5 s0 HA HM HZ
    simp only [wrC, zW, List.set_cons_succ, List.set_cons_zero, List.getElem?_cons_succ, List.getElem?_cons_zero] at f6 p0 z0 r0 p1 z1 r1 p2 z2 r2 p3 z3 r3 p4 z4 r4 p5 z5 r5 p6 z6 r6 p7 z7 r7
    have HK1 := hide K1
    have HK2 := hide K2
    have HFN := hide FN
    have HFB := hide FB
    clear K1 K2 FN FB
    unfold eight at r0 r1 r2 r3 r4 r5 r6 r7
    go_wp2
    refine bodyPost_ret (v := wrV m a1 c1 a2 c2 (.func (.func 42) #[] #[ptr wc.heap.size, ptr (wc.heap.size + 1)]) (.func (.func 41) #[] #[ptr x2, ptr x1])) ?_ rfl ⟨_, _, _, rfl, unhide HFB, unhide HK1, unhide HK2, unhide HFN⟩
    unfold wrV
    simp [results, Tryd.results18, go_sem, r0, r1, r2, r3, r4, r5, r6, r7]


set_option maxRecDepth 100000 in
set_option maxHeartbeats 4000000 in
theorem newW_mealy (m : Mc) (a1 : Option Addr) (c1 : Nat) (a2 : Option Addr) (c2 p K : Nat) (w : World) (hk : m.kind = 2) :
    Calls Tryd.prog 18 #[mval m a1 c1 a2 c2, .slice (some ⟨p, 0, none⟩) K K] w fun e w' => ∃ u b1 b2, e = .returned (wrV m a1 c1 a2 c2 plV (.func (.func 43) #[] #[ptr b1, ptr b2])) ∧ Below w.heap.size w w' ∧ Bk w' b1 [u] 50 ∧ Bk w' b2 (mC m a1 c1 a2 c2) 24 ∧ IsN w.heap.size m a1 c1 a2 c2 (.slice (some ⟨p, 0, none⟩) K K) u w' := by
  have hm0 := Bk.new w (mC m a1 c1 a2 c2) 24
  have ba := ballo w (.cells (mC m a1 c1 a2 c2).toArray 24)
  have bb := ballo (w.alloc (.cells (mC m a1 c1 a2 c2).toArray 24)) (.cells zW.toArray 52)
  have hz0 := Bk.new (w.alloc (.cells (mC m a1 c1 a2 c2).toArray 24)) zW 52
  rw [World.size_alloc] at hz0
  have HA := hide (bstep ba bb)
  have HM := hide (hm0.below bb)
  have HZ := hide hz0
  have H1 := hide hk
  clear hm0 ba bb hz0 hk
  have emv : mval m a1 c1 a2 c2 = .agg #[.int .i64 m.kind, .int .i64 m.k, .int .i64 m.o, .int .i64 m.n, .slice a1 m.nx.length c1, .slice a2 m.out.length c2] := rfl
  rw [emv]
  go_enter Tryd.func18, Tryd.ntmps18
  go_wp2
  go_cut [5] from 6 to 10 (fun v5 wx => ∃ b u, v5 = ptr b ∧ Below w.heap.size w wx ∧ Bk wx w.heap.size (mC m a1 c1 a2 c2) 24 ∧ Bk wx (w.heap.size + 1) zW 52 ∧ w.heap.size + 1 + 1 ≤ b ∧ Bk wx b (wrC m a1 c1 a2 c2 plV u) 52 ∧ IsN w.heap.size m a1 c1 a2 c2 (.slice (some ⟨p, 0, none⟩) K K) u wx)
  case first =>
    rename_i hJ hK
    refine nw_region _ _ (w.heap.size + 1 + 1) w.heap.size p K m a1 c1 a2 c2 rfl rfl rfl (unhide HM) (by simp) (by simp) ?_
    intro a X b u h1 h2 h3 h4 h5 h6 h7 h8
    refine hK a X (hJ a X ⟨a.eval (.tmp 5), a.eval (.tmp 6), a.eval (.tmp 7), a.eval (.tmp 8), a.eval (.tmp 9), a.eval (.tmp 10), ⟨b, u, h5, bstep (unhide HA) h1, (unhide HM).below h1, (unhide HZ).below h1, h6, h7, h8.mono (by omega)⟩, ?_⟩)
    refine act_lit h2 h3 fun t ht => ?_
    have ht' : t < 25 := ht
    rcases (by omega : t = 0 ∨ t = 1 ∨ t = 2 ∨ t = 3 ∨ t = 4 ∨ t = 5 ∨ t = 6 ∨ t = 7 ∨ t = 8 ∨ t = 9 ∨ t = 10 ∨ t = 11 ∨ t = 12 ∨ t = 13 ∨ t = 14 ∨ t = 15 ∨ t = 16 ∨ t = 17 ∨ t = 18 ∨ t = 19 ∨ t = 20 ∨ t = 21 ∨ t = 22 ∨ t = 23 ∨ t = 24) with rfl | rfl | rfl | rfl | rfl | rfl | rfl | rfl | rfl | rfl | rfl | rfl | rfl | rfl | rfl | rfl | rfl | rfl | rfl | rfl | rfl | rfl | rfl | rfl | rfl <;> first | rfl | exact h4 _ (by decide)
  case rest =>
    obtain ⟨b, u, rfl, hB, hM, hZ, hb, hW, x1, x2, rfl, hN⟩ := hcut
    have hk := unhide H1
    have m0 := hM.cell 0
    have m1 := hM.cell 1
    have m2 := hM.cell 2
    have m3 := hM.cell 3
    have m4 := hM.cell 4
    have m5 := hM.cell 5
    have s0 := hW.cell 7
    simp only [mC, wrC, List.getElem?_cons_succ, List.getElem?_cons_zero] at m0 m1 m2 m3 m4 m5 s0
    have t1 : (m.kind == 1) = false := by rw [hk]; rfl
    have hc := withSaid_any m a1 c1 a2 c2 41 #[ptr x2, ptr x1] wc
    rw [emv] at hc
    clear hk
    go_wp2_with fail
    refine hc.mono ?_
    rintro e X1 ⟨rfl, hX1⟩
    have bX : Below wc.heap.size wc X1 := by rw [hX1]; exact bstep (ballo _ _) (ballo _ _)
    have k1 : Bk X1 wc.heap.size (mC m a1 c1 a2 c2) 24 := by rw [hX1]; exact (Bk.new _ _ _).below (ballo _ _)
    have k2 : Bk X1 (wc.heap.size + 1) [.func (.func 41) #[] #[ptr x2, ptr x1]] 50 := by
      have := Bk.new (wc.alloc (.cells (mC m a1 c1 a2 c2).toArray 24)) [.func (.func 41) #[] #[ptr x2, ptr x1]] 50
      rw [World.size_alloc] at this
      rw [hX1]; exact this
    clear hX1 hc
    have hb1 := hW.below bX
    have hz1 := hZ.below bX
    have hb2 := hb1.set 7 (.func (.func 43) #[] #[ptr (wc.heap.size + 1), ptr wc.heap.size])
    have hz2 : Bk (X1.setCell ⟨b, 7, none⟩ (.func (.func 43) #[] #[ptr (wc.heap.size + 1), ptr wc.heap.size])) (w.heap.size + 1) zW 52 := hz1.other (Below.heap_setCell _ ⟨b, 7, none⟩ _ _ (show w.heap.size + 1 ≠ b by omega))
    have f6 := hb1.cell 7
    have g6 := hb1.frozen 7
    have p0 := hb2.cell 0
    have p1 := hb2.cell 1
    have p2 := hb2.cell 2
    have p3 := hb2.cell 3
    have p4 := hb2.cell 4
    have p5 := hb2.cell 5
    have p6 := hb2.cell 6
    have p7 := hb2.cell 7
    have z0 := hz2.cell 0
    have z1 := hz2.cell 1
    have z2 := hz2.cell 2
    have z3 := hz2.cell 3
    have z4 := hz2.cell 4
    have z5 := hz2.cell 5
    have z6 := hz2.cell 6
    have z7 := hz2.cell 7
    have y0 := hz2.frozen 0
    have y1 := hz2.frozen 1
    have y2 := hz2.frozen 2
    have y3 := hz2.frozen 3
    have y4 := hz2.frozen 4
    have y5 := hz2.frozen 5
    have y6 := hz2.frozen 6
    have y7 := hz2.frozen 7
    have hz3 := hz2.eight (.int .i64 m.kind) (.int .i64 m.k) (.int .i64 m.o) (.int .i64 m.n) (.slice a1 m.nx.length c1) (.slice a2 m.out.length c2) (.func (.func 28) #[] #[]) (.func (.func 43) #[] #[ptr (wc.heap.size + 1), ptr wc.heap.size])
    have r0 := hz3.cell 0
    have r1 := hz3.cell 1
    have r2 := hz3.cell 2
    have r3 := hz3.cell 3
    have r4 := hz3.cell 4
    have r5 := hz3.cell 5
    have r6 := hz3.cell 6
    have r7 := hz3.cell 7
    have hoth : ∀ k, k ≠ b → k ≠ w.heap.size + 1 → (eight (X1.setCell ⟨b, 7, none⟩ (.func (.func 43) #[] #[ptr (wc.heap.size + 1), ptr wc.heap.size])) (w.heap.size + 1) (.int .i64 m.kind) (.int .i64 m.k) (.int .i64 m.o) (.int .i64 m.n) (.slice a1 m.nx.length c1) (.slice a2 m.out.length c2) (.func (.func 28) #[] #[]) (.func (.func 43) #[] #[ptr (wc.heap.size + 1), ptr wc.heap.size])).heap[k]? = X1.heap[k]? := fun k h1 h2 => (eight_other h2 _ _ _ _ _ _ _ _).trans (Below.heap_setCell _ ⟨b, 7, none⟩ _ k h1)
    have K1 := k1.other (hoth _ (k1.ne hb1 (by decide)) (k1.ne hz1 (by decide)))
    have K2 := k2.other (hoth _ (k2.ne hb1 (by decide)) (k2.ne hz1 (by decide)))
    have FN : IsN w.heap.size m a1 c1 a2 c2 (.slice (some ⟨p, 0, none⟩) K K) (.func (.func 41) #[] #[ptr x2, ptr x1]) _ := (IsN.below (⟨x1, x2, rfl, hN⟩ : IsN w.heap.size m a1 c1 a2 c2 (.slice (some ⟨p, 0, none⟩) K K) (.func (.func 41) #[] #[ptr x2, ptr x1]) wc) bX).other fun k cs t hk ht => hoth k (hk.ne hb1 ht) (hk.ne hz1 ht)
    have FB := (bstep hB bX).trans (((Below.refl w.heap.size X1).setCell (p := ⟨b, 7, none⟩) (show w.heap.size ≤ b by omega) (.func (.func 43) #[] #[ptr (wc.heap.size + 1), ptr wc.heap.size])).trans (eight_below (b := w.heap.size + 1) (by omega) (.int .i64 m.kind) (.int .i64 m.k) (.int .i64 m.o) (.int .i64 m.n) (.slice a1 m.nx.length c1) (.slice a2 m.out.length c2) (.func (.func 28) #[] #[]) (.func (.func 43) #[] #[ptr (wc.heap.size + 1), ptr wc.heap.size])))
    clear hB hM hZ hW hN bX k1 k2 hb1 hz1 hb2 hz2 hz3 hoth m0 m1 m2 m3 m4 m5 s0 HA HM HZ
    simp only [wrC, zW, List.set_cons_succ, List.set_cons_zero, List.getElem?_cons_succ, List.getElem?_cons_zero] at f6 p0 z0 r0 p1 z1 r1 p2 z2 r2 p3 z3 r3 p4 z4 r4 p5 z5 r5 p6 z6 r6 p7 z7 r7
    have HK1 := hide K1
    have HK2 := hide K2
    have HFN := hide FN
    have HFB := hide FB
    clear K1 K2 FN FB
    unfold eight at r0 r1 r2 r3 r4 r5 r6 r7
    go_wp2
    refine bodyPost_ret (v := wrV m a1 c1 a2 c2 (.func (.func 28) #[] #[]) (.func (.func 43) #[] #[ptr (wc.heap.size + 1), ptr wc.heap.size])) ?_ rfl ⟨_, _, _, rfl, unhide HFB, unhide HK2, unhide HK1, unhide HFN⟩
    unfold wrV
    simp [results, Tryd.results18, go_sem, r0, r1, r2, r3, r4, r5, r6, r7]

end Go.Proofs.YtbhdcgebcmgidaaDoor
