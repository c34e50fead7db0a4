/-
  What the program's cutFront does: the first of a class become a class of their own.
-/
import Derived.Test.YtnakadlhafggkaaQMove
namespace Go.Proofs.Ytnakadlhafggkaa
open Go.RowKit Go.Maps

theorem cellsP_one (x y : Int) : cellsP 1 (fun _ i => if i = 0 then x else y) = [.int .i64 x, .int .i64 y] := rfl
theorem cellsP_add (n : Nat) (F : Nat → Nat → Int) (x y : Int) : cellsP n F ++ [.int .i64 x, .int .i64 y] = cellsP (n + 1) (addP n x y F) := by
  refine List.ext_getElem? fun j => ?_
  by_cases h : j < n * 2
  · obtain ⟨t, i, ht, hi, rfl⟩ : ∃ t i, t < n ∧ i < 2 ∧ j = t * 2 + i := ⟨j / 2, j % 2, by omega, by omega, by omega⟩
    rw [List.getElem?_append_left (by rw [length_cellsP]; exact h), cellsP_get ht hi, cellsP_get (by omega) hi]
    simp [addP, ht]
  · rw [List.getElem?_append_right (by rw [length_cellsP]; omega), length_cellsP]
    by_cases h0 : j = n * 2
    · subst h0
      have := cellsP_get (n := n + 1) (F := addP n x y F) (s := n) (i := 0) (by omega) (by omega)
      rw [Nat.sub_self]
      refine Eq.trans ?_ this.symm
      simp [addP]
    · by_cases h1 : j = n * 2 + 1
      · subst h1
        rw [cellsP_get (n := n + 1) (F := addP n x y F) (s := n) (i := 1) (by omega) (by omega), show n * 2 + 1 - n * 2 = 1 by omega]; simp [addP]
      · rw [List.getElem?_eq_none (by simp; omega), List.getElem?_eq_none (by rw [length_cellsP]; omega)]

section
variable {w : World} {ops : Array Oper} {rest : List Oper} {o : Oper} {a : Act} {Q : Exit → Act → World → Prop}
/-- append(s, [2]int{x, y}). -/
theorem wplP_push (hgd : o.guard = none) (s z : Operand) (ho : o.op = .call { callee := .builtin .append, args := #[s, z], argTypes := #[67, 67] })
    (B : Nat) (v : Value) (n : Nat) (F : Nat → Nat → Int) (hs : a.eval s = v) (hown : OwnP w B v n F)
    (g c : Nat) (x y : Int) (hx : a.eval z = .slice (some ⟨g, 0, none⟩) 1 c) (h0 : w.cell? ⟨g, 0, none⟩ = some (.int .i64 x)) (h1 : w.cell? ⟨g, 1, none⟩ = some (.int .i64 y))
    (hn : n ≤ 100000) (hbase : B ≤ w.heap.size)
    (h : ∀ v' w', OwnP w' B v' (n + 1) (addP n x y F) → w.grownBy w' v.ownBlock → (∀ b, v'.ownBlock = some b → v.ownBlock = some b ∨ b = w.heap.size) → wpList Try.prog ops Q rest (a.put o.dst v') w') :
    wpList Try.prog ops Q (o :: rest) a w := by
  obtain ⟨i, hi, hz0, hz1, hz2⟩ := info_parts infoPair
  refine wpList_append_own_at w hgd s z 67 ho B 88 i (.agg #[.int .i64 0, .int .i64 0]) 2 16 Try.underlying67 hi hz0 hz1 hz2 rfl (by decide) v n (cellsP n F) hs hown ⟨g, 0, none⟩ 1 c [.int .i64 x, .int .i64 y] hx rfl ?_ ?_ (by unfold maxLen; omega) (by omega) hbase ?_
  · intro j u hj
    match j, hj with
    | 0, hj =>
      have : u = .int .i64 x := by simpa using hj.symm
      subst this; exact h0
    | 1, hj =>
      have : u = .int .i64 y := by simpa using hj.symm
      subst this; exact h1
    | j + 2, hj => simp at hj
  · intro u hu
    simp at hu
    rcases hu with rfl | rfl <;> rfl
  · intro v' w' r1 r2 _ r4
    refine h v' w' ?_ r2 fun b hb => ?_
    · rw [cellsP_add] at r1; exact r1
    · rcases r4 with r4 | r4
      · exact .inl (r4 ▸ hb)
      · rw [r4] at hb; cases hb; exact .inr rfl
end
theorem OwnP.shape {w : World} {B n : Nat} {v : Value} {F : Nat → Nat → Int} (h : OwnP w B v n F) (hn : 0 < n) : ∃ g cap, v = .slice (some ⟨g, 0, none⟩) n cap := by
  rcases h.2 with ⟨_, rfl⟩ | ⟨g, cap, cur, rfl, _⟩
  · omega
  · exact ⟨g, cap, rfl⟩
/-- A span more: the object's own cell turns. -/
theorem PtAt.grow {w w2 : World} {p : Pp} {gs cap K gs' cap' : Nat} {R P C : List Int} {F F' : Nat → Nat → Int} {o : Obj} (h : PtAt w p gs cap K R P C F) (hg : (w.alloc o).grownBy w2 (some gs)) (ho : OwnP w2 0 (.slice (some ⟨gs', 0, none⟩) (K + 1) cap') (K + 1) F') (hat : gs' = gs ∨ gs' = w.heap.size + 1) :
    PtAt (w2.setCell ⟨p.b, 3, none⟩ (.slice (some ⟨gs', 0, none⟩) (K + 1) cap')) p gs' cap' (K + 1) R P C F' ∧ Bx (p.has gs) w (w2.setCell ⟨p.b, 3, none⟩ (.slice (some ⟨gs', 0, none⟩) (K + 1) cap')) := by
  have lt : ∀ k, p.has gs k → k < w.heap.size := fun k hk => h.lt hk
  have lb := lt p.b (.inl rfl)
  have lr := lt p.gr (.inr (.inl rfl))
  have lp := lt p.gp (.inr (.inr (.inl rfl)))
  have lc := lt p.gc (.inr (.inr (.inr (.inl rfl))))
  have e2 : ∀ k, k < w.heap.size → k ≠ gs → w2.heap[k]? = w.heap[k]? := fun k h1 h2 => (hg.block k (by simp; omega) (fun e => h2 (by cases e; rfl))).trans (Below.heap_alloc _ _ _ h1)
  have e3 : ∀ k, k ≠ p.b → (w2.setCell ⟨p.b, 3, none⟩ (.slice (some ⟨gs', 0, none⟩) (K + 1) cap')).heap[k]? = w2.heap[k]? := fun k hk => Below.heap_setCell _ _ _ _ hk
  have cb : ∀ i, w2.cell? ⟨p.b, i, none⟩ = w.cell? ⟨p.b, i, none⟩ := fun i => World.cell?_of_block (e2 _ lb h.bs)
  have co : ∀ i, i ≠ 3 → (w2.setCell ⟨p.b, 3, none⟩ (.slice (some ⟨gs', 0, none⟩) (K + 1) cap')).cell? ⟨p.b, i, none⟩ = w.cell? ⟨p.b, i, none⟩ := fun i hi => by
    rw [World.cell?_setCell_other (w := w2) (a := ⟨p.b, 3, none⟩) (b := ⟨p.b, i, none⟩) (h := fun e => hi (by cases e; rfl))]; exact cb i
  have bs' : p.b ≠ gs' := by rcases hat with rfl | rfl; { exact h.bs }; omega
  have rs' : p.gr ≠ gs' := by rcases hat with rfl | rfl; { exact h.rs }; omega
  have ps' : p.gp ≠ gs' := by rcases hat with rfl | rfl; { exact h.ps }; omega
  have cs' : p.gc ≠ gs' := by rcases hat with rfl | rfl; { exact h.cs }; omega
  refine ⟨⟨(co 0 (by omega)).trans h.c0, (co 1 (by omega)).trans h.c1, (co 2 (by omega)).trans h.c2, World.cell?_setCell_same _ _ _ ((cb 3).trans h.c3), by rw [World.frozen?_setCell, World.frozen?_of_block (a := ⟨p.b, 3, none⟩) (e2 _ lb h.bs)]; exact h.f3, h.r.keep fun b k => ?_, h.q.keep fun b k => ?_, h.c.keep fun b k => ?_, ho.keep fun b k => ?_, h.lr, h.lq, h.lc, h.br, h.bp, h.bc, bs', h.rp, h.rc, rs', h.pc, ps', cs'⟩, ?_⟩
  · cases k; exact (e3 _ h.br.symm).trans (e2 _ lr h.rs)
  · cases k; exact (e3 _ h.bp.symm).trans (e2 _ lp h.ps)
  · cases k; exact (e3 _ h.bc.symm).trans (e2 _ lc h.cs)
  · cases k; exact e3 _ bs'.symm
  · exact (((Bx.refl (p.has gs) w).alloc o).grown hg (fun k e _ => by cases e; exact .inr (.inr (.inr (.inr rfl))))).setCell (p := ⟨p.b, 3, none⟩) (.inl rfl) _

theorem Bx.setNew {X : Nat → Prop} {a w : World} (h : Bx X a w) {p : Addr} (hp : p.block < a.heap.size → X p.block) (u : Value) : Bx X a (w.setCell p u) :=
  ⟨h.os, h.tape, h.output, by have := h.size; simpa [World.setCell] using this, fun k hk hx => (Below.heap_setCell w p u k (fun e => hx (by rw [e]; exact hp (by rw [← e]; exact hk)))).trans (h.block k hk hx)⟩
theorem PtAt.congr {w : World} {p : Pp} {gs cap K : Nat} {R P C : List Int} {F F' : Nat → Nat → Int} (h : PtAt w p gs cap K R P C F) (e : ∀ s i, s < K → i < 2 → F s i = F' s i) : PtAt w p gs cap K R P C F' :=
  ⟨h.c0, h.c1, h.c2, h.c3, h.f3, h.r, h.q, h.c, h.s.congr e, h.lr, h.lq, h.lc, h.br, h.bp, h.bc, h.bs, h.rp, h.rc, h.rs, h.pc, h.ps, h.cs⟩
/-- Of the first t of class k's span the class is already K. -/
def St.cutTo (s : St) (k t x : Nat) : Nat := if s.c x = k ∧ s.p x < s.b k + t then s.K else s.c x
theorem cutTo_zero {n : Nat} {s : St} (I : PI n s) {k x : Nat} (hx : x < n) : s.cutTo k 0 x = s.c x := by
  unfold St.cutTo
  rw [if_neg]
  rintro ⟨rfl, h⟩
  have := (I.inn x hx).1
  omega
theorem cutTo_next {n : Nat} {s : St} (I : PI n s) {k t x : Nat} (hk : k < s.K) (ht : s.b k + t < s.e k) (hx : x < n) : upd (s.cutTo k t) (s.r (s.b k + t)) s.K x = s.cutTo k (t + 1) x := by
  obtain ⟨k1, k2⟩ := I.sp k hk
  have hr := I.rr (s.b k + t) (by omega)
  have hc := I.off k hk (s.b k + t) (by omega) ht
  unfold St.cutTo
  by_cases e : x = s.r (s.b k + t)
  · subst e
    rw [upd_same, hc, hr.2, if_pos ⟨rfl, by omega⟩]
  · rw [upd_ne e]
    have : s.p x ≠ s.b k + t := fun g => e (by rw [← g]; exact (I.pq x hx).2.symm)
    by_cases f : s.c x = k ∧ s.p x < s.b k + t
    · rw [if_pos f, if_pos ⟨f.1, by omega⟩]
    · rw [if_neg f, if_neg (fun g => f ⟨g.1, by omega⟩)]
theorem cut_F {s : St} {k m : Nat} (hk : k < s.K) (j i : Nat) (hj : j < s.K + 1) (hi : i < 2) : setP k 0 ((s.b k + m : Nat) : Int) (addP s.K ((s.b k : Nat) : Int) ((s.b k + m : Nat) : Int) s.F) j i = (s.cut k m).F j i := by
  unfold setP addP
  show _ = if i = 0 then ((upd (upd s.b s.K (s.b k)) k (s.b k + m) j : Nat) : Int) else ((upd s.e s.K (s.b k + m) j : Nat) : Int)
  by_cases e : j = k
  · subst e
    by_cases f : i = 0
    · subst f; rw [if_pos ⟨rfl, rfl⟩, if_pos rfl, upd_same]
    · rw [if_neg (fun g => f g.2), if_pos hk, if_neg f, upd_ne (by omega)]; simp [St.F, f]
  · rw [if_neg (fun g => e g.1), upd_ne (j := k) e]
    by_cases g : j = s.K
    · subst g
      rw [if_neg (by omega), upd_same, upd_same]
    · rw [if_pos (by omega), upd_ne g, upd_ne g]; rfl

/-- What cutFront leaves. -/
structure CtPost (w : World) (p : Pp) (gs : Nat) (s' : St) (w' : World) (gs' cap' : Nat) : Prop where
  at_ : PtS w' p gs' cap' s'
  new : gs' = gs ∨ w.heap.size ≤ gs'
  bx : Bx (p.has gs) w w'

set_option maxHeartbeats 2000000 in
theorem cut_any (p : Pp) (gs cap : Nat) (s : St) (k m : Nat) (w : World) (h : PtS w p gs cap s) (I : PI p.n s) (hn : p.n ≤ 65536) (hk : k < s.K) (m0 : 0 < m) (m1 : s.b k + m < s.e k) :
    Calls Try.prog 47 #[.pointer (some ⟨p.b, 0, none⟩), .int .i64 (k : Nat), .int .i64 (m : Nat)] w fun e w' => ∃ gs' cap', e = .returned (.int .i64 (s.K : Nat)) ∧ CtPost w p gs (s.cut k m) w' gs' cap' := by
  have c3 := h.c3
  have f3 := h.f3
  have hKn := I.Kn
  obtain ⟨k1, k2⟩ := I.sp k hk
  have hb0 := (h.spn hk (i := 0) (by omega)).1
  rw [Nat.add_zero, show s.F k 0 = ((s.b k : Nat) : Int) from rfl] at hb0
  have H := hide h
  have HI := hide I
  have hbl := h.lt (k := p.b) (.inl rfl)
  have hsl := h.lt (k := gs) (.inr (.inr (.inr (.inr rfl))))
  have hbs := h.bs
  clear h I
  have C0 : (w.alloc (.cells #[.int .i64 ((s.b k : Nat) : Int), .int .i64 (((s.b k : Nat) : Int) + ((m : Nat) : Int))] 88)).cell? ⟨w.heap.size, 0, none⟩ = some (.int .i64 ((s.b k : Nat) : Int)) := by simp
  have C1 : (w.alloc (.cells #[.int .i64 ((s.b k : Nat) : Int), .int .i64 (((s.b k : Nat) : Int) + ((m : Nat) : Int))] 88)).cell? ⟨w.heap.size, 1, none⟩ = some (.int .i64 (((s.b k : Nat) : Int) + ((m : Nat) : Int))) := by simp
  have O0 : OwnP (w.alloc (.cells #[.int .i64 ((s.b k : Nat) : Int), .int .i64 (((s.b k : Nat) : Int) + ((m : Nat) : Int))] 88)) 0 (.slice (some ⟨gs, 0, none⟩) s.K cap) s.K s.F := (unhide H).s.keep fun b e => Below.heap_alloc _ _ _ (by cases e; exact hsl)
  have HC0 := hide C0
  have HC1 := hide C1
  have HO0 := hide O0
  have hK0 : 0 < s.K := by omega
  have hbig : s.K ≤ 100000 := by omega
  clear C0 C1 O0
  go_enter Try.func47, Try.ntmps47
  go_wp2_with (at_builtin; refine wplP_push rfl (.tmp 28) (.tmp 34) rfl 0 _ s.K s.F rfl (unhide HO0) w.heap.size 1 ((s.b k : Nat) : Int) (((s.b k : Nat) : Int) + ((m : Nat) : Int)) rfl (unhide HC0) (unhide HC1) hbig (Nat.zero_le _) ?_; intro v1 w1 ho1 hg1 hat1; obtain ⟨gs1, cap1, rfl⟩ := ho1.shape (Nat.succ_pos _); have hw1 : w1.cell? ⟨p.b, 3, none⟩ = some (.slice (some ⟨gs, 0, none⟩) s.K cap) := (by rw [World.cell?_of_block (a := ⟨p.b, 3, none⟩) (hg1.block p.b (by simp; omega) (fun e => hbs (by cases e; rfl))), World.cell?_of_block (a := ⟨p.b, 3, none⟩) (Below.heap_alloc _ _ _ hbl)]; exact c3); have hw2 : w1.frozen? ⟨p.b, 3, none⟩ = false := (by rw [World.frozen?_of_block (a := ⟨p.b, 3, none⟩) (hg1.block p.b (by simp; omega) (fun e => hbs (by cases e; rfl))), World.frozen?_of_block (a := ⟨p.b, 3, none⟩) (Below.heap_alloc _ _ _ hbl)]; exact f3); have hg1' : (w.alloc (.cells #[.int .i64 ((s.b k : Nat) : Int), .int .i64 (((s.b k : Nat) : Int) + ((m : Nat) : Int))] 88)).grownBy w1 (some gs) := hg1; have hat1' : gs1 = gs ∨ gs1 = w.heap.size + 1 := (hat1 gs1 rfl).imp (fun e => by cases e; rfl) (fun e => by simpa using e); have bs1 : p.b ≠ gs1 := (by rcases hat1' with e | e; { rw [e]; exact hbs }; { rw [e]; omega }); obtain ⟨hs1, fs1⟩ := ho1.cells (s := k) (i := 0) (by omega) (by omega); rw [Nat.add_zero] at hs1 fs1; have HO1 := hide ho1; have HG1 := hide hg1'; have HAT1 := hide hat1'; clear ho1 hg1 hg1' hat1 hat1')
  clear hw1 hw2 hs1 fs1 c3 f3 hb0
  obtain ⟨h2, b2⟩ := (unhide H).grow (unhide HG1) (unhide HO1) (unhide HAT1)
  have h3 := h2.storeS (s := k) (i := 0) (by omega) (((s.b k : Nat) : Int) + ((m : Nat) : Int))
  have b3 := b2.setNew (p := ⟨gs1, k * 2, none⟩) (fun hlt => by rcases unhide HAT1 with e | e; { exact .inr (.inr (.inr (.inr e))) }; { have h1 : gs1 < w.heap.size := hlt; omega }) (.int .i64 (((s.b k : Nat) : Int) + ((m : Nat) : Int)))
  rw [Nat.add_zero] at h3
  generalize (w1.setCell ⟨p.b, 3, none⟩ (.slice (some ⟨gs1, 0, none⟩) (s.K + 1) cap1)).setCell ⟨gs1, k * 2, none⟩ (.int .i64 (((s.b k : Nat) : Int) + ((m : Nat) : Int))) = w3 at *
  have hnat : (((s.b k : Nat) : Int) + ((m : Nat) : Int)) = ((s.b k + m : Nat) : Int) := by omega
  rw [hnat] at h3
  have h4 : PtAt w3 p gs1 cap1 (s.K + 1) (tab p.n s.r) (tab p.n s.p) (tab p.n (s.cutTo k 0)) (s.cut k m).F := by
    rw [tab_congr (f := s.cutTo k 0) (g := s.c) (fun i hi => cutTo_zero (unhide HI) hi)]
    exact h3.congr fun j i hj hi => cut_F hk j i hj hi
  have HB3 := hide b3
  have hF0 : (s.cut k m).F s.K 0 = ((s.b k : Nat) : Int) := by
    show ((upd (upd s.b s.K (s.b k)) k (s.b k + m) s.K : Nat) : Int) = _
    rw [upd_ne (by omega), upd_same]
  have hF1 : (s.cut k m).F s.K 1 = ((s.b k + m : Nat) : Int) := by
    show ((upd s.e s.K (s.b k + m) s.K : Nat) : Int) = _
    rw [upd_same]
  clear h2 b2 h3 b3 hnat HC0 HC1 HO0 HO1 HG1 H
  refine (span_any h4 (c := s.K) (x := s.b k) (y := s.b k + m) (by omega) hF0 hF1 (by omega) (by omega)).mono ?_
  rw [Nat.add_sub_cancel_left]
  rintro e w4 ⟨rfl, q4, rfl⟩
  have HP4 := hide (h4.draws q4)
  have HB4 := hide ((unhide HB3).draws q4)
  clear h4 HB3 hF0 hF1
  generalize w3.drewN q4 = w4 at *
  go_wp2
  go_loopw [52] (fun v wx => ∃ t : Nat, t ≤ m ∧ v = .int .i64 t ∧ PtAt wx p gs1 cap1 (s.K + 1) (tab p.n s.r) (tab p.n s.p) (tab p.n (s.cutTo k t)) (s.cut k m).F ∧ Bx (p.has gs) w wx) (fun v _ => m - (intOf v).toNat)
  case atStart => exact ⟨0, Nat.zero_le _, rfl, unhide HP4, unhide HB4⟩
  case round =>
    obtain ⟨t, ht, rfl, hat, hbx⟩ := hrel
    clear HP4 HB4
    by_cases hlt : t < m
    · have hr := (hat.row (i := s.b k + t) (by omega)).1
      rw [tab_at _ (by omega)] at hr
      have hrn := ((unhide HI).rr (s.b k + t) (by omega)).1
      obtain ⟨hc, hf⟩ := hat.cls hrn
      have c2 := hat.c2
      have HAT := hide hat
      have HBX := hide hbx
      clear hat hbx
      have HN := hide (tab_congr (n := p.n) (f := upd (s.cutTo k t) (s.r (s.b k + t)) s.K) (g := s.cutTo k (t + 1)) (fun i hi => cutTo_next (unhide HI) hk (by omega) hi))
      generalize hri : s.r (s.b k + t) = ri at *
      have HRI := hide hri
      clear hri
      go_wp2
      go_roundw
      case rel =>
        refine ⟨t + 1, by omega, by go_num, ?_, ?_⟩
        · have := (unhide HAT).storeC ri (s.K : Nat)
          rw [tab_set, unhide HN] at this
          exact this
        · exact (unhide HBX).setCell (p := ⟨p.gc, ri, none⟩) (.inr (.inr (.inr (.inl rfl)))) _
      case measure => simp [intOf]; omega
    · obtain rfl : t = m := by omega
      have HAT := hide hat
      have HBX := hide hbx
      clear hat hbx
      go_wp2
      go_ret
      exact ⟨gs1, cap1, rfl, unhide HAT, (unhide HAT1).imp id (fun e => by omega), unhide HBX⟩
end Go.Proofs.Ytnakadlhafggkaa
