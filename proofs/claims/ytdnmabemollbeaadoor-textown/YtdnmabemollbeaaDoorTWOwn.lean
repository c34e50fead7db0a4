/-
  TextOwn, walked: for every input the call returns true.
-/
import Derived.Test.YtdnmabemollbeaaDoorTWExp
import Derived.Test.YtdnmabemollbeaaDoorUThr
import Derived.Test.YtdnmabemollbeaaDoorK6
import Derived.Test.YtdnmabemollbeaaDoorTMo
import Derived.Test.YtdnmabemollbeaaDoorK1
import Derived.Lib.BufferOwn
namespace Go.Proofs.YtdnmabemollbeaaDoor
set_option linter.unusedVariables false
open Go.RowKit

def duo (u v : Value) (i : Nat) : Value := if i = 0 then u else v
theorem OwnV.two (w : World) (B : Nat) (u v : Value) (hb : B ≤ w.heap.size) : OwnV (w.alloc (.cells #[u, v] 22)) B (.slice (some ⟨w.heap.size, 0, none⟩) 2 2) 2 (duo u v) := by
  unfold OwnV
  have e : cellsV 2 (duo u v) = (#[u, v] : Array Value).toList := rfl
  rw [e]
  exact World.ownsRow_lit w #[u, v] 2 hb (by unfold maxLen; simp) rfl
def nsD (c : Mc) (i : Nat) : Nat := if i = 0 then c.nx.length else c.out.length
def fsD (c : Mc) (i j : Nat) : Int := if i = 0 then c.nx.getD j 0 else c.out.getD j 0
theorem RdL.gr {q : IntKind} {w w' : World} {a : Option Addr} {l : List Int} {X : Nat} (h : RdL q w a l) (hg : w.grownBy w' (some X)) (hx : ∀ x, a = some x → x.block ≠ X) : RdL q w' a l := by
  rcases h with h | ⟨b, off, rfl, hc⟩
  · exact .inl h
  · refine .inr ⟨b, off, rfl, fun i hi => ?_⟩
    have hlt := World.block_lt_of_cell? w _ (hc i hi)
    rw [World.cell?_of_block (w := w) (w' := w') (a := ⟨b, off + i, none⟩) (hg.block b hlt fun e => hx _ rfl (by injection e))]
    exact hc i hi
theorem Box.gr {w w' : World} {b : Nat} {m : Mc} {a1 : Option Addr} {c1 : Nat} {a2 : Option Addr} {c2 : Nat} {X : Nat} (h : Box w b m a1 c1 a2 c2) (hg : w.grownBy w' (some X)) (hb : b ≠ X) : Box w' b m a1 c1 a2 c2 := by
  have hlt := World.block_lt_of_cell? w _ h.p0
  have e : ∀ i, w'.cell? ⟨b, i, none⟩ = w.cell? ⟨b, i, none⟩ := fun i => World.cell?_of_block (a := ⟨b, i, none⟩) (hg.block b hlt fun e => hb (by injection e))
  exact ⟨by rw [e]; exact h.p0, by rw [e]; exact h.p1, by rw [e]; exact h.p2, by rw [e]; exact h.p3, by rw [e]; exact h.p4, by rw [e]; exact h.p5⟩
theorem OwnL.gr {q : IntKind} {t : TypeId} {w w' : World} {B X : Nat} {v : Value} {l : List Int} (h : OwnL q t w B v l) (hg : w.grownBy w' (some X)) (hx : X < B) : OwnL q t w' B v l :=
  h.keep fun b hb => hg.block b (h.lt hb).2 fun e => by injection e with e; have := (h.lt hb).1; omega

set_option maxRecDepth 100000 in
set_option maxHeartbeats 4000000 in
theorem textOwn_walk (m : Mc) (a1 : Option Addr) (c1 : Nat) (a2 : Option Addr) (c2 : Nat) (w : World) (h0 : ArgM w m a1 c1 a2 c2) (g : Gl w) :
    Calls Tryd.prog 10 #[mval m a1 c1 a2 c2] w fun e w' => e = .returned (.bool true) ∧ Below w.heap.size w w' := by
  unfold mval
  have B0 := Box.alloc w m a1 c1 a2 c2 24
  have b0 := ballo w (.cells #[.int .i64 m.kind, .int .i64 m.k, .int .i64 m.o, .int .i64 m.n, .slice a1 m.nx.length c1, .slice a2 m.out.length c2] 24)
  cases hbig : bigB 100 m
  rotate_left
  · go_enter Tryd.func10, Tryd.ntmps10
    go_wp2_with fail
    refine (big_any 100 m a1 c1 a2 c2 _).mono ?_
    rw [hbig]
    rintro e w1 ⟨rfl, hb1⟩
    have b1 := bstep b0 hb1
    go_wp2_with (go_at_call 12; refine (live_any _ (g.below b1)).mono ?_; rintro e wl ⟨rfl, hbl⟩)
    go_ret
    exact ⟨rfl, bstep b1 hbl⟩
  obtain ⟨-, ln, lo⟩ := bigF hbig
  have mn : m.nx.length ≤ maxLen := by unfold maxLen; omega
  have mo' : m.out.length ≤ maxLen := by unfold maxLen; omega
  go_enter Tryd.func10, Tryd.ntmps10
  go_wp2_with fail
  refine (big_any 100 m a1 c1 a2 c2 _).mono ?_
  rw [hbig]
  rintro e w1 ⟨rfl, hb1⟩
  have b1 := bstep b0 hb1
  have B1 := B0.below hb1
  obtain ⟨p0, p1, p2, p3, p4, p5⟩ := id B1
  clear B0 b0 hbig
  have hex := export_any m a1 c1 a2 c2 w1 (h0.nx.rd.below b1) (h0.out.rd.below b1) mn mo' (g.below b1)
  unfold mval at hex
  by_cases hm : (mchV m).2 = 0
  rotate_left
  · have hne := mch_ne hm
    rw [expV_bad hm] at hex
    clear hm
    go_wp2_with fail
    refine hex.mono ?_
    rintro e w2 ⟨v2, rfl, ho2, hb2⟩
    have b2 := bstep b1 hb2
    generalize (mchV m).2 = er at *
    clear hex
    dsimp only
    go_wp2_with (first | (go_at_call 17; refine (num_any _ _).mono ?_; rintro e wz ⟨rfl, hwz⟩; subst wz) | (go_at_call 12; refine (live_any _ (g.below b2)).mono ?_; rintro e wl ⟨rfl, hbl⟩))
    go_ret
    exact ⟨rfl, bstep b2 hbl⟩
  rw [expV_ok hm] at hex
  have HEX := hide (expV_ok hm)
  have F := full_of hm
  have hbk := im_back F
  have hne : 0 < (expT m).length := by unfold expT; simp
  have hlen := expT_len F
  clear hm F
  generalize expT m = T at *
  go_wp2_with fail
  refine hex.mono ?_
  rintro e w2 ⟨v2, rfl, ho2, hb2⟩
  have b2 := bstep b1 hb2
  have B2 := B1.below hb2
  obtain ⟨X, y1, rfl, hlc, hcm, hX1, hX2, hc2, hf2⟩ := ho2.pos (by rw [zs_len]; exact hne)
  obtain ⟨_, _, E1, -, -, -, rd1, -⟩ := ho2.shape
  cases E1
  rw [zs_len] at hlc ⊢
  clear p0 p1 p2 p3 p4 p5 hc2 hf2
  have r0 : OwnL .u8 5 (w2.alloc (.cells #[] 5)) w2.heap.size (.slice (some ⟨w2.heap.size, 0, none⟩) 0 0) [] := OwnL.lit w2 _ [] #[] (Nat.le_refl _) (by unfold maxLen; simp) rfl
  have hrdT : RdL .u8 (w2.alloc (.cells #[] 5)) (some ⟨X, 0, none⟩) (zs T) := rd1.below (ballo _ _)
  dsimp only
  go_wp2_with (first | (go_at_call 17; refine (num_any _ _).mono ?_; rintro e wz ⟨rfl, hwz⟩; subst wz) | (at_builtin; refine wpl_pushL e8 rfl (.tmp 24) (.tmp 25) rfl w2.heap.size _ [] rfl r0 (some ⟨X, 0, none⟩) y1 (zs T) (by rw [zs_len]; rfl) hrdT (by intro h; cases h) (by rw [zs_len]; simp only [List.length_nil]; omega) (by simp) ?_; rw [List.nil_append]; intro v3 w3 ho3 hb3 _))
  have hb23 : Below w2.heap.size w2 w3 := ((Below.refl _ _).alloc (Nat.le_refl _) _).trans hb3
  have z23 := hb23.size
  have z01 := b1.size
  have z00 : w.heap.size < w1.heap.size := World.block_lt_of_cell? w1 _ B1.p0
  have b3 := bstep b2 hb23
  obtain ⟨x3, y3, rfl, hn3, -, -, rd3, hx3⟩ := ho3.shape
  rw [zs_len] at hn3 ⊢
  have him := import_any (some ⟨X, 0, none⟩) y1 T w3 (rd1.below hb23) (g.below b3)
  unfold ImPost at him
  rw [hbk, show imV T (.ok m) = (m, 0, (T.length : Int)) from rfl] at him
  unfold mval at him
  dsimp only at him
  refine him.mono ?_
  rintro e w4 ⟨d1, e1, d2, e2, rfl, ⟨o1, o2, hap⟩, hb4⟩
  have z34 := hb4.size
  have ba : Below w4.heap.size w4 (w4.alloc (.cells #[.int .i64 m.kind, .int .i64 m.k, .int .i64 m.o, .int .i64 m.n, .slice d1 m.nx.length e1, .slice d2 m.out.length e2] 24)) := ballo _ _
  have hb35 := bstep hb4 ba
  have b5 := bstep b3 hb35
  have B5 := (B2.below hb23).below hb35
  have C5 := Box.alloc w4 m d1 e1 d2 e2 24
  have o15 := o1.grown ba
  have o25 := o2.grown ba
  have rd35 := rd3.below hb35
  have ow5 := (ho2.grown hb23).grown hb35
  have z5 : w4.heap.size < (w4.alloc (.cells #[.int .i64 m.kind, .int .i64 m.k, .int .i64 m.o, .int .i64 m.n, .slice d1 m.nx.length e1, .slice d2 m.out.length e2] 24)).heap.size := by simp
  generalize hw5 : (w4.alloc (.cells #[.int .i64 m.kind, .int .i64 m.k, .int .i64 m.o, .int .i64 m.n, .slice d1 m.nx.length e1, .slice d2 m.out.length e2] 24)) = w5 at *
  clear him hrdT r0 B1 B2
  have I0 : Hid (OwnL .u8 5 w5 w1.heap.size (.slice (some ⟨X, 0, none⟩) T.length y1) (zs T)) := by rw [zs_len] at ow5; exact ow5
  clear ow5 ho2 rd1
  go_wp2_with fail
  go_loopw [9] (fun i wr => ∃ (I : Nat) (l : List Int), I ≤ T.length ∧ i = .int .i64 I ∧ l.length = T.length ∧ OwnL .u8 5 wr w1.heap.size (.slice (some ⟨X, 0, none⟩) T.length y1) l ∧ w5.grownBy wr (some X)) (fun i _ => T.length - (intOf i).toNat)
  case atStart => exact ⟨0, zs T, Nat.zero_le _, rfl, zs_len T, unhide I0, ⟨rfl, rfl, rfl, Nat.le_refl _, fun _ _ _ => rfl⟩⟩
  case round =>
    obtain ⟨I, l, hI, rfl, hll, hl, hg⟩ := hrel
    by_cases hlt : I < T.length
    · rw [← hll] at hl
      obtain ⟨_, _, E1, -, -, -, -, hc, hf⟩ := hl.pos (by omega)
      cases E1
      have hc1 := hc I (by omega)
      have hf1 := hf I
      have hs := hl.store I 120
      rw [hll] at hs
      have hgs := Lib.grownBy_setB hg I (.int .u8 120)
      clear hc hf
      go_wp2_with fail
      refine ⟨⟨I + 1, l.set I 120, by omega, by simp, by rw [List.length_set]; exact hll, hs, hgs⟩, ?_⟩
      simp only [intOf]
      omega
    · have hI2 : I = T.length := by omega
      subst hI2
      have hb56 : Below w.heap.size w5 wr := (Below.refl _ _).grown hg b5.size fun k hk => by injection hk with hk; omega
      have b6 := b5.trans hb56
      have B6 := B5.gr hg (by omega)
      have C6 := C5.gr hg (by omega)
      have o16 := o15.gr hg (by omega)
      have o26 := o25.gr hg (by omega)
      have rd36 := rd35.gr hg (fun x hx => by have := hx3 x hx; omega)
      have z56 := hg.size
      obtain ⟨_, _, E1, -, -, -, k1, -⟩ := o16.shape
      cases E1
      obtain ⟨_, _, E1, -, -, -, k2, -⟩ := o26.shape
      cases E1
      have hsm := msame_any m d1 e1 d2 e2 a1 c1 a2 c2 wr k1 k2 (h0.nx.rd.below b6) (h0.out.rd.below b6) mn mo'
      unfold mval at hsm
      clear hl hg hb56 B5 C5 o15 o25 rd35 I0 k1 k2
      obtain ⟨p0, p1, p2, p3, p4, p5⟩ := id B6
      obtain ⟨q0, q1, q2, q3, q4, q5⟩ := id C6
      go_wp2_with fail
      refine hsm.mono ?_
      rintro e w7 ⟨rfl, hb7⟩
      have z7 := hb7.size
      have zz7 : w3.heap.size ≤ w7.heap.size := by omega
      have b7 := bstep b6 hb7
      have B7 := B6.below hb7
      have C7 := C6.below hb7
      have i1 := o16.grown hb7
      have i2 := o26.grown hb7
      have rd37 := rd36.below hb7
      clear p0 p1 p2 p3 p4 p5 q0 q1 q2 q3 q4 q5 B6 C6 hsm o16 o26 rd36
      have O := OwnV.two w7 w3.heap.size (.slice d1 m.nx.length e1) (.slice d2 m.out.length e2) zz7
      have FF : Fam (w7.alloc (.cells #[.slice d1 m.nx.length e1, .slice d2 m.out.length e2] 22)) w3.heap.size 2 (duo (.slice d1 m.nx.length e1) (.slice d2 m.out.length e2)) (nsD m) (fsD m) := by
        refine ⟨fun i hi => ?_, fun i j hi hj hne b hb hb' => ?_⟩
        · rcases (show i = 0 ∨ i = 1 by omega) with rfl | rfl
          · exact own_of_list (i1.alloc _)
          · exact own_of_list (i2.alloc _)
        · rcases (show i = 0 ∧ j = 1 ∨ i = 1 ∧ j = 0 by omega) with ⟨rfl, rfl⟩ | ⟨rfl, rfl⟩
          · exact hap b hb hb'
          · exact hap b hb' hb
      have A : ∀ b, (Value.slice (some ⟨w7.heap.size, 0, none⟩) 2 2).ownBlock = some b → ∀ i, i < 2 → (duo (.slice d1 m.nx.length e1) (.slice d2 m.out.length e2) i).ownBlock ≠ some b := by
        intro b hb i hi e
        have hbe : w7.heap.size = b := Option.some.inj hb
        rcases (show i = 0 ∨ i = 1 by omega) with rfl | rfl
        · have q := (i1.lt e).2; omega
        · have q := (i2.lt e).2; omega
      have HO := hide O
      have HF := hide FF
      have HA := hide A
      have HN : Hid (∀ i, i < 2 → nsD m i ≤ 100000) := fun i _ => by unfold nsD; split <;> omega
      have x7 := ballo w7 (.cells #[.slice d1 m.nx.length e1, .slice d2 m.out.length e2] 22)
      have B8 := B7.below x7
      have b8 := bstep b7 x7
      have rd38 := rd37.below x7
      clear O FF A i1 i2 hap
      obtain ⟨q0, q1, q2, q3, q4, q5⟩ := id C7
      go_wp2_with fail
      refine (apart_any w3.heap.size 2 _ _ _ _ _ (unhide HO) (unhide HF) (unhide HA) (by simp; omega) (by decide) (unhide HN)).mono ?_
      rintro e w9 ⟨rfl, hb9⟩
      have b9 := b8.trans (hb9.mono (by omega))
      have B9 := box_on B8 hb9 (by omega)
      have rd39 := rd38.under hb9 (fun x hx => (hx3 x hx).2)
      have hex := export_any m a1 c1 a2 c2 w9 (h0.nx.rd.below b9) (h0.out.rd.below b9) mn mo' (g.below b9)
      unfold mval at hex
      rw [unhide HEX] at hex
      clear q0 q1 q2 q3 q4 q5 C7 B7 B8 HO HF HA HN x7
      obtain ⟨p0, p1, p2, p3, p4, p5⟩ := id B9
      go_wp2_with fail
      refine hex.mono ?_
      rintro e w10 ⟨v10, rfl, ho10, hb10⟩
      obtain ⟨x10, y10, rfl, hn10, -, -, rd10, -⟩ := ho10.shape
      rw [zs_len] at hn10 ⊢
      have b10 := bstep b9 hb10
      have hs := bsame_any x10 x3 y10 y3 T T w10 rd10 (rd39.below hb10) hn10 hn3
      rw [decide_eq_true rfl] at hs
      clear hex p0 p1 p2 p3 p4 p5
      dsimp only
      go_wp2_with (first | (go_at_call 17; refine (num_any _ _).mono ?_; rintro e wz ⟨rfl, hwz⟩; subst wz) | (go_at_call 16; refine hs.mono ?_; rintro e wz ⟨rfl, hwz⟩; subst wz) | (go_at_call 12; refine (live_any _ (g.below b10)).mono ?_; rintro e wl ⟨rfl, hbl⟩))
      go_ret
      exact ⟨rfl, bstep b10 hbl⟩

end Go.Proofs.YtdnmabemollbeaaDoor
