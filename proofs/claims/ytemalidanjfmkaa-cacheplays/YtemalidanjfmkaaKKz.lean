/-
  What holds ahead of each round of CachePlays, and how it goes on.
-/
import Derived.Test.YtemalidanjfmkaaKRegA
import Derived.Test.YtemalidanjfmkaaKRegB
import Derived.Test.YtemalidanjfmkaaKRegC
import Derived.Test.YtemalidanjfmkaaKRegD
import Derived.Test.YtemalidanjfmkaaKRegE
import Derived.Test.YtemalidanjfmkaaK30
import Derived.Test.YtemalidanjfmkaaQLent
namespace Go.Proofs.Ytemalidanjfmkaa
set_option linter.unusedVariables false
open Go.RowKit

/-- What holds ahead of each round. -/
structure Kz (w0 wr : World) (b g cap db : Nat) (c : Cs) (R : List En) (p : Cv) (t : Nat) : Prop where
  co : Co w0.heap.size wr b g cap c R
  cb : Cb wr db p
  fz : ∀ i, wr.frozen? ⟨db, i, none⟩ = false
  cs : p.cs = c
  ok : Cok p
  sx : ∀ wz, Bx (fun k => k = b ∨ k = g ∨ k = db) wr wz → RdC wz p
  nb : db ≠ b
  ng : db ≠ g
  dl : w0.heap.size ≤ db
  h0 : 0 ≤ c.hits
  h1 : c.hits ≤ (t : Int)
  m0 : 0 ≤ c.miss
  m1 : c.miss ≤ (t : Int)
  wl : c.ws.length ≤ t
  lo : Below w0.heap.size w0 wr
theorem Kz.dlt {w0 wr : World} {b g cap db : Nat} {c : Cs} {R : List En} {p : Cv} {t : Nat} (h : Kz w0 wr b g cap db c R p t) : db < wr.heap.size := World.block_lt_of_cell? wr _ h.cb.p0
theorem Kz.below {w0 wr wx : World} {b g cap db : Nat} {c : Cs} {R : List En} {p : Cv} {t : Nat} (h : Kz w0 wr b g cap db c R p t) (hb : Below wr.heap.size wr wx) : Kz w0 wx b g cap db c R p t :=
  ⟨h.co.below hb, h.cb.below hb, fun i => frzO (h.fz i) hb h.dlt, h.cs, h.ok, fun wz hz => h.sx wz (bx_down hb hz), h.nb, h.ng, h.dl, h.h0, h.h1, h.m0, h.m1, h.wl, h.lo.trans (hb.mono h.lo.size)⟩
theorem Kz.rd {w0 wr : World} {b g cap db : Nat} {c : Cs} {R : List En} {p : Cv} {t : Nat} (h : Kz w0 wr b g cap db c R p t) : RdC wr p := h.sx wr (Bx.refl _ _)
theorem Kz.small {w0 wr : World} {b g cap db : Nat} {c : Cs} {R : List En} {p : Cv} {t : Nat} (h : Kz w0 wr b g cap db c R p t) (ht : t ≤ 60) : p.ws.length ≤ 100000 ∧ p.bg.length ≤ 10000000 := by
  have h1 := h.wl
  have h2 := h.co.i.pc.room
  have h3 := h.co.i.pc.m1
  have e1 : c.ws.length = p.ws.length := by rw [← h.cs]; exact laL_len p.ws
  have e2 : c.bg.length = p.bg.length := by rw [← h.cs]; exact laL_len p.bg
  omega
theorem Cb.twelve {w : World} {db : Nat} {p : Cv} (h : Cb w db p) : w.cell? ⟨db, 0, none⟩ = some (.int .i64 p.kind) ∧ w.cell? ⟨db, 1, none⟩ = some (.int .i64 p.k) ∧ w.cell? ⟨db, 2, none⟩ = some (.int .i64 p.o) ∧ w.cell? ⟨db, 3, none⟩ = some (.int .i64 0) ∧ w.cell? ⟨db, 4, none⟩ = some (.slice none 0 0) ∧ w.cell? ⟨db, 5, none⟩ = some (.slice none 0 0) ∧ w.cell? ⟨db, 6, none⟩ = some (.int .i64 p.most) ∧ w.cell? ⟨db, 7, none⟩ = some (.slice p.aw p.ws.length p.cw) ∧ w.cell? ⟨db, 8, none⟩ = some (.slice p.ao p.os.length p.co) ∧ w.cell? ⟨db, 9, none⟩ = some (.slice p.ab p.bg.length p.cb) ∧ w.cell? ⟨db, 10, none⟩ = some (.int .i64 p.hits) ∧ w.cell? ⟨db, 11, none⟩ = some (.int .i64 p.miss) :=
  ⟨h.p0, h.p1, h.p2, h.p3, h.p4, h.p5, h.p6, h.p7, h.p8, h.p9, h.p10, h.p11⟩
theorem bstep' {w0 w1 w2 : World} (h : Below w0.heap.size w0 w1) (hb : Below w1.heap.size w1 w2) : Below w0.heap.size w0 w2 := bstep h hb
theorem Kz.put {w0 wr w6 w8 : World} {b g cap db g6 cap6 : Nat} {c : Cs} {R R6 : List En} {p p7 : Cv} {t : Nat} {W O : List Int} (K : Kz w0 wr b g cap db c R p t) (co6 : Co w0.heap.size w6 b g6 cap6 (putV c W O).1 R6) (bx6 : Bx (fun j => j = b ∨ j = g) wr w6) (hg6 : g6 = g ∨ wr.heap.size ≤ g6) (hb68 : Below w6.heap.size w6 w8) (hcs7 : p7.cs = (putV c W O).1) (hok7 : Cok p7)
    (hst : ∀ X : Nat → Prop, (∀ j, X j → j < w6.heap.size) → (∀ wz, Bx X w6 wz → RdC wz p) → ∀ wz, Bx X w8 wz → RdC wz p7) : Kz w0 (dozen w8 db p7) b g6 cap6 db (putV c W O).1 R6 p7 (t + 1) := by
  have hbl := K.co.blt
  have hgl := K.co.glt.2
  have hdl := K.dlt
  have hz6 := bx6.size
  have hz8 := hb68.size
  have hnb := K.nb
  have hng := K.ng
  have hdg6 : db ≠ g6 := by rcases hg6 with q | q <;> omega
  have hcb6 : Cb w6 db p := K.cb.keepB (bx6.block db hdl (by rintro (z | z) <;> omega))
  have hfz6 : ∀ i, w6.frozen? ⟨db, i, none⟩ = false := fun i => by
    have e := bx6.block db hdl (by rintro (z | z) <;> omega)
    have := K.fz i
    unfold World.frozen? at this ⊢
    rw [e]; exact this
  have hkeep : (putV c W O).1.hits = c.hits ∧ (putV c W O).1.miss = c.miss ∧ (putV c W O).1.ws.length ≤ c.ws.length + 1 := by
    by_cases h : (putV c W O).2 = 0
    · rw [(put_ok h).1]; exact ⟨rfl, rfl, by simp⟩
    · rw [put_err h]; exact ⟨rfl, rfl, by omega⟩
  have hlow6 : Below w0.heap.size w0 w6 := K.lo.trans (bx6.below (fun j hj => by have q2 := K.co.bB; have q3 := K.co.glt.1; rcases hj with z | z <;> omega) K.lo.size)
  have hlow8 : Below w0.heap.size w0 w8 := hlow6.trans (hb68.mono hlow6.size)
  refine ⟨(co6.below hb68).bx (dozen_bx1 w8 db p7) (fun z => hnb z.symm) (fun z => hdg6 z.symm), (hcb6.below hb68).set p7, fun i => by rw [dozen_frz]; exact frzO (hfz6 i) hb68 (by omega), hcs7, hok7, fun wz hz => ?_, hnb, hdg6, K.dl, by rw [hkeep.1]; exact K.h0, by rw [hkeep.1]; have := K.h1; omega, by rw [hkeep.2.1]; exact K.m0, by rw [hkeep.2.1]; have := K.m1; omega, by have := hkeep.2.2; have := K.wl; omega, dozen_below hlow8 K.dl p7⟩
  have hb6 := co6.blt
  have hg6l := co6.glt.2
  refine hst (fun k => k = b ∨ k = g6 ∨ k = db) (fun j hj => by rcases hj with z | z | z <;> omega) (fun wy hy => ?_) wz ?_
  · refine K.sx wy ⟨hy.os.trans bx6.os, hy.tape.trans bx6.tape, hy.output.trans bx6.output, Nat.le_trans hz6 hy.size, fun j hj hn => ?_⟩
    refine (hy.block j (by omega) (fun q => hn ?_)).trans (bx6.block j hj (fun q => hn ?_))
    · rcases q with q | q | q
      · exact .inl q
      · rcases hg6 with z | z
        · exact .inr (.inl (q.trans z))
        · omega
      · exact .inr (.inr q)
    · rcases q with q | q
      · exact .inl q
      · exact .inr (.inl q)
  · have h1 := dozen_bx1 w8 db p7
    exact ⟨hz.os.trans h1.os, hz.tape.trans h1.tape, hz.output.trans h1.output, Nat.le_trans h1.size hz.size, fun j hj hn => (hz.block j (Nat.lt_of_lt_of_le hj h1.size) hn).trans (h1.block j hj (fun q => hn (.inr (.inr q))))⟩
theorem Cb.put10 {w : World} {b : Nat} {p : Cv} (h : Cb w b p) (x : Int) : Cb (w.setCell ⟨b, 10, none⟩ (.int .i64 x)) b { p with hits := x } :=
  ⟨(sc_ot (by decide)).trans h.p0, (sc_ot (by decide)).trans h.p1, (sc_ot (by decide)).trans h.p2, (sc_ot (by decide)).trans h.p3, (sc_ot (by decide)).trans h.p4, (sc_ot (by decide)).trans h.p5, (sc_ot (by decide)).trans h.p6, (sc_ot (by decide)).trans h.p7, (sc_ot (by decide)).trans h.p8, (sc_ot (by decide)).trans h.p9, (sc_sm h.p10), (sc_ot (by decide)).trans h.p11⟩
theorem Cb.put11 {w : World} {b : Nat} {p : Cv} (h : Cb w b p) (x : Int) : Cb (w.setCell ⟨b, 11, none⟩ (.int .i64 x)) b { p with miss := x } :=
  ⟨(sc_ot (by decide)).trans h.p0, (sc_ot (by decide)).trans h.p1, (sc_ot (by decide)).trans h.p2, (sc_ot (by decide)).trans h.p3, (sc_ot (by decide)).trans h.p4, (sc_ot (by decide)).trans h.p5, (sc_ot (by decide)).trans h.p6, (sc_ot (by decide)).trans h.p7, (sc_ot (by decide)).trans h.p8, (sc_ot (by decide)).trans h.p9, (sc_ot (by decide)).trans h.p10, (sc_sm h.p11)⟩
theorem Kz.hit {w0 wr w6 w8 : World} {b g cap db : Nat} {c : Cs} {R : List En} {p : Cv} {t : Nat} (K : Kz w0 wr b g cap db c R p t) (co6 : Co w0.heap.size w6 b g cap { c with hits := c.hits + 1 } R) (bx6 : Bx (fun j => j = b) wr w6) (hb68 : Below w6.heap.size w6 w8) :
    Kz w0 (w8.setCell ⟨db, 10, none⟩ (.int .i64 (p.hits + 1))) b g cap db { c with hits := c.hits + 1 } R { p with hits := p.hits + 1 } (t + 1) := by
  have hbl := K.co.blt
  have hgl := K.co.glt.2
  have hdl := K.dlt
  have hz6 := bx6.size
  have hz8 := hb68.size
  have hnb := K.nb
  have hng := K.ng
  have hcb6 : Cb w6 db p := K.cb.keepB (bx6.block db hdl (fun z => hnb z))
  have hfz6 : ∀ i, w6.frozen? ⟨db, i, none⟩ = false := fun i => by
    have e := bx6.block db hdl (fun z => hnb z)
    have := K.fz i
    unfold World.frozen? at this ⊢
    rw [e]; exact this
  have hlow6 : Below w0.heap.size w0 w6 := K.lo.trans (bx6.below (fun j hj => by have q2 := K.co.bB; cases hj; omega) K.lo.size)
  have hlow8 : Below w0.heap.size w0 w8 := hlow6.trans (hb68.mono hlow6.size)
  have hs1 : Bx (fun k => k = db) w8 (w8.setCell ⟨db, 10, none⟩ (.int .i64 (p.hits + 1))) := Bx.setCell (X := fun k => k = db) (Bx.refl _ w8) (p := ⟨db, 10, none⟩) rfl _
  have ecs : p.hits = c.hits := by rw [← K.cs]; rfl
  refine ⟨(co6.below hb68).bx hs1 (fun z => hnb z.symm) (fun z => hng z.symm), (hcb6.below hb68).put10 (p.hits + 1), fun i => by rw [World.frozen?_setCell]; exact frzO (hfz6 i) hb68 (by omega), by have := K.cs; rw [← this]; rfl, K.ok, fun wz hz => ?_, hnb, hng, K.dl, by have := K.h0; show 0 ≤ c.hits + 1; omega, by have := K.h1; show c.hits + 1 ≤ _; omega, K.m0, by have := K.m1; show c.miss ≤ _; omega, by have := K.wl; show c.ws.length ≤ t + 1; omega, hlow8.setCell (p := ⟨db, 10, none⟩) K.dl _⟩
  have hr := K.sx wz (((bx6.weak (Y := fun k => k = b ∨ k = g ∨ k = db) fun _ _ q => .inl q).trans ((Bx.of (X := fun k => k = b ∨ k = g ∨ k = db) hb68).trans (hs1.weak (Y := fun k => k = b ∨ k = g ∨ k = db) fun _ _ q => .inr (.inr q)) fun _ _ q => q) fun _ _ q => q).trans hz fun _ _ q => q)
  exact ⟨hr.ws, hr.os, hr.bg, hr.len, hr.fit, hr.lw, hr.lb⟩
theorem Kz.missed {w0 wr w6 w8 : World} {b g cap db : Nat} {c : Cs} {R : List En} {p : Cv} {t : Nat} (K : Kz w0 wr b g cap db c R p t) (co6 : Co w0.heap.size w6 b g cap { c with miss := c.miss + 1 } R) (bx6 : Bx (fun j => j = b) wr w6) (hb68 : Below w6.heap.size w6 w8) :
    Kz w0 (w8.setCell ⟨db, 11, none⟩ (.int .i64 (p.miss + 1))) b g cap db { c with miss := c.miss + 1 } R { p with miss := p.miss + 1 } (t + 1) := by
  have hbl := K.co.blt
  have hgl := K.co.glt.2
  have hdl := K.dlt
  have hz6 := bx6.size
  have hz8 := hb68.size
  have hnb := K.nb
  have hng := K.ng
  have hcb6 : Cb w6 db p := K.cb.keepB (bx6.block db hdl (fun z => hnb z))
  have hfz6 : ∀ i, w6.frozen? ⟨db, i, none⟩ = false := fun i => by
    have e := bx6.block db hdl (fun z => hnb z)
    have := K.fz i
    unfold World.frozen? at this ⊢
    rw [e]; exact this
  have hlow6 : Below w0.heap.size w0 w6 := K.lo.trans (bx6.below (fun j hj => by have q2 := K.co.bB; cases hj; omega) K.lo.size)
  have hlow8 : Below w0.heap.size w0 w8 := hlow6.trans (hb68.mono hlow6.size)
  have hs1 : Bx (fun k => k = db) w8 (w8.setCell ⟨db, 11, none⟩ (.int .i64 (p.miss + 1))) := Bx.setCell (X := fun k => k = db) (Bx.refl _ w8) (p := ⟨db, 11, none⟩) rfl _
  have ecs : p.miss = c.miss := by rw [← K.cs]; rfl
  refine ⟨(co6.below hb68).bx hs1 (fun z => hnb z.symm) (fun z => hng z.symm), (hcb6.below hb68).put11 (p.miss + 1), fun i => by rw [World.frozen?_setCell]; exact frzO (hfz6 i) hb68 (by omega), by have := K.cs; rw [← this]; rfl, K.ok, fun wz hz => ?_, hnb, hng, K.dl, K.h0, by have := K.h1; show c.hits ≤ _; omega, by have := K.m0; show 0 ≤ c.miss + 1; omega, by have := K.m1; show c.miss + 1 ≤ _; omega, by have := K.wl; show c.ws.length ≤ t + 1; omega, hlow8.setCell (p := ⟨db, 11, none⟩) K.dl _⟩
  have hr := K.sx wz (((bx6.weak (Y := fun k => k = b ∨ k = g ∨ k = db) fun _ _ q => .inl q).trans ((Bx.of (X := fun k => k = b ∨ k = g ∨ k = db) hb68).trans (hs1.weak (Y := fun k => k = b ∨ k = g ∨ k = db) fun _ _ q => .inr (.inr q)) fun _ _ q => q) fun _ _ q => q).trans hz fun _ _ q => q)
  exact ⟨hr.ws, hr.os, hr.bg, hr.len, hr.fit, hr.lw, hr.lb⟩
theorem Kz.next {w0 wr : World} {b g cap db : Nat} {c : Cs} {R : List En} {p : Cv} {t : Nat} (K : Kz w0 wr b g cap db c R p t) : Kz w0 wr b g cap db c R p (t + 1) :=
  { K with h1 := by have := K.h1; omega, m1 := by have := K.m1; omega, wl := by have := K.wl; omega }
theorem Kz.nums {w0 wr : World} {b g cap db : Nat} {c : Cs} {R : List En} {p : Cv} {t : Nat} (K : Kz w0 wr b g cap db c R p t) :
    (∀ X, Below wr.heap.size wr X → Calls Try.prog 21 #[.pointer (some ⟨b, 0, none⟩)] X fun e X' => e = .returned (.int .i64 (p.bg.length : Int)) ∧ Below X.heap.size X X')
    ∧ (∀ X, Below wr.heap.size wr X → Calls Try.prog 22 #[.pointer (some ⟨b, 0, none⟩)] X fun e X' => e = .returned (.int .i64 p.hits) ∧ Below X.heap.size X X')
    ∧ (∀ X, Below wr.heap.size wr X → Calls Try.prog 23 #[.pointer (some ⟨b, 0, none⟩)] X fun e X' => e = .returned (.int .i64 p.miss) ∧ Below X.heap.size X X') := by
  have e1 : c.bg.length = p.bg.length := by rw [← K.cs]; exact laL_len p.bg
  have e2 : c.hits = p.hits := by rw [← K.cs]; rfl
  have e3 : c.miss = p.miss := by rw [← K.cs]; rfl
  refine ⟨fun X hX => (nodes_any (K.co.below hX)).mono ?_, fun X hX => (hits_any (K.co.below hX)).mono ?_, fun X hX => (misses_any (K.co.below hX)).mono ?_⟩
  · rintro e X' ⟨rfl, rfl⟩; exact ⟨by rw [e1], Below.refl _ _⟩
  · rintro e X' ⟨rfl, rfl⟩; exact ⟨by rw [e2], Below.refl _ _⟩
  · rintro e X' ⟨rfl, rfl⟩; exact ⟨by rw [e3], Below.refl _ _⟩

end Go.Proofs.Ytemalidanjfmkaa
