/-
  What the program's Split returns.
-/
import Derived.Test.YtnakadlhafggkaaQApi
import Derived.Test.YtnakadlhafggkaaQSplitW
namespace Go.Proofs.Ytnakadlhafggkaa
open Go.RowKit Go.Maps

/-- All numbers of l are held. -/
def okL (n : Nat) (l : List Int) : Bool := l.all fun x => decide (0 ≤ x ∧ x < (n : Int))
theorem okL_iff {n : Nat} {l : List Int} : okL n l = true ↔ ∀ x ∈ l, 0 ≤ x ∧ x < (n : Int) := by
  unfold okL
  rw [List.all_eq_true]
  exact ⟨fun h x hx => of_decide_eq_true (h x hx), fun h x hx => decide_eq_true (h x hx)⟩
/-- The first j of the classes that are made. -/
def mdL (K j : Nat) : List Int := (List.range j).map fun i : Nat => ((K + i : Nat) : Int)
theorem mdL_len (K j : Nat) : (mdL K j).length = j := by simp [mdL]
theorem mdL_next (K j : Nat) : mdL K (j + 1) = mdL K j ++ [((K + j : Nat) : Int)] := by unfold mdL; rw [List.range_succ, List.map_append]; rfl
/-- What Split leaves, where all is held. -/
structure SlPost (w : World) (p : Pp) (gs : Nat) (s : St) (l : List Int) (w' : World) (gs' cap' : Nat) (s' : St) (v : Value) : Prop where
  at_ : PtS w' p gs' cap' s'
  pi : PI p.n s'
  K : s'.K = s.K + mixN (tab p.n s.c) l s.K
  c : tab p.n s'.c = spC (tab p.n s.c) l s.K s.K
  own : OwnL .i64 3 w' w.heap.size v (spM (tab p.n s.c) l s.K s.K)
  vno : ∀ b, v.ownBlock = some b → ¬ p.has gs' b
  new : gs' = gs ∨ w.heap.size ≤ gs'
  bx : Bx (p.has gs) w w'

set_option maxRecDepth 100000 in
set_option maxHeartbeats 2000000 in
theorem split_bad (p : Pp) (gs cap : Nat) (s : St) (a : Option Addr) (c : Nat) (l : List Int) (w : World) (h : PtS w p gs cap s) (hl : l.length ≤ 1000000) (hr : RdL .i64 w a l) (hx : okL p.n l = false) :
    Calls Try.prog 14 #[.pointer (some ⟨p.b, 0, none⟩), .slice a l.length c] w fun e w' => e = .returned (.tuple #[.slice none 0 0, .int .i64 1]) ∧ w' = w := by
  have HX := hide hx
  have HO := hide (fun i => holds_any h i)
  clear hx h
  go_enter Try.func14, Try.ntmps14
  go_wp2
  go_loop [14] (fun v => ∃ j : Nat, j ≤ l.length ∧ v = .int .i64 j ∧ ∀ i, i < j → 0 ≤ l.getD i 0 ∧ l.getD i 0 < (p.n : Int)) (fun v => l.length - (intOf v).toNat)
  case atStart => exact ⟨0, Nat.zero_le _, rfl, fun i hi => by omega⟩
  case round =>
    obtain ⟨j, hj, rfl, hg⟩ := hrel
    have HG := hide hg
    clear hg
    by_cases hlt : j < l.length
    · obtain ⟨b, off, rfl, hc⟩ := hr.at hlt
      have hcj := hc j hlt
      clear hc
      generalize hx : l.getD j 0 = x at *
      have HXX := hide hx
      clear hx
      by_cases hok : 0 ≤ x ∧ x < (p.n : Int)
      · have HOK := hide hok
        clear hok
        go_wp2_with fail
        refine ((unhide HO) x).mono ?_
        rw [decide_eq_true (unhide HOK)]
        rintro e w1 ⟨rfl, rfl⟩
        go_wp2
        go_round
        case rel => exact ⟨j + 1, by omega, by go_num, fun i hi => by by_cases e : i = j; { subst e; rw [unhide HXX]; exact unhide HOK }; exact unhide HG i (by omega)⟩
        case measure => simp [intOf]; omega
      · have HOK := hide hok
        clear hok
        go_wp2_with fail
        refine ((unhide HO) x).mono ?_
        rw [decide_eq_false (unhide HOK)]
        rintro e w1 ⟨rfl, rfl⟩
        go_wp2
        go_ret2
        exact ⟨rfl, rfl⟩
    · exfalso
      have h1 : okL p.n l = true := okL_iff.2 fun x hx => by
        obtain ⟨i, hi, rfl⟩ := mem_gd hx
        exact unhide HG i (by omega)
      rw [unhide HX] at h1
      cases h1

set_option maxRecDepth 100000 in
set_option maxHeartbeats 4000000 in
theorem split_ok (p : Pp) (gs cap : Nat) (s : St) (a : Option Addr) (c : Nat) (l : List Int) (w : World) (h : PtS w p gs cap s) (I : PI p.n s) (hn : p.n ≤ 65536) (hl : l.length ≤ 1000000) (hr : RdL .i64 w a l) (ha : ∀ x, a = some x → l.length ≠ 0 → ¬ p.has gs x.block) (hx : okL p.n l = true) :
    Calls Try.prog 14 #[.pointer (some ⟨p.b, 0, none⟩), .slice a l.length c] w fun e w' => ∃ gs' cap' s' v, e = .returned (.tuple #[v, .int .i64 0]) ∧ SlPost w p gs s l w' gs' cap' s' v := by
  have hx' := okL_iff.1 hx
  have SP := split_any p gs cap s a c l w h I hn hl hr ha hx'
  have hok : ∀ i, i < l.length → 0 ≤ l.getD i 0 ∧ l.getD i 0 < (p.n : Int) := fun i hi => hx' _ (gd_mem hi)
  have HOK := hide hok
  have HSP := hide SP
  have HO := hide (fun i => holds_any h i)
  have hKn := I.Kn
  have HLO := hide (fun k (hk : p.has gs k) => PtAt.lt h hk)
  clear hx hx' h SP hok I ha
  go_enter Try.func14, Try.ntmps14
  go_wp2
  go_loop [4, 14] (fun z v => ∃ j : Nat, j ≤ l.length ∧ v = .int .i64 j ∧ z = .slice none 0 0) (fun _ v => l.length - (intOf v).toNat)
  case atStart => exact ⟨0, Nat.zero_le _, rfl, rfl⟩
  case round =>
    obtain ⟨j, hj, rfl, rfl⟩ := hrel
    by_cases hlt : j < l.length
    · obtain ⟨b, off, rfl, hc⟩ := hr.at hlt
      have hcj := hc j hlt
      have HOJ := hide ((unhide HOK) j hlt)
      clear hc
      generalize hx : l.getD j 0 = x at *
      clear hx
      go_wp2_with fail
      refine ((unhide HO) x).mono ?_
      rw [decide_eq_true (unhide HOJ)]
      rintro e w1 ⟨rfl, rfl⟩
      go_wp2
      go_round
      case rel => exact ⟨j + 1, by omega, by go_num, rfl⟩
      case measure => simp [intOf]; omega
    · obtain rfl : j = l.length := by omega
      clear HO HOK hr
      go_wp2_with fail
      refine (unhide HSP).mono ?_
      rintro e w1 ⟨gs', cap', s', v, G, rfl, hsp⟩
      clear HSP
      have hcnt := mixN_le (tab p.n s.c) l s.K
      have HCU := hide hsp.cuts
      have HSL : Hid (∀ b, v.ownBlock = some b → ¬ p.has gs' b) := fun b e hk => by
        have hb := (hsp.own.lt e).1
        rcases hk with g | g | g | g | g
        · have := unhide HLO b (.inl g); omega
        · have := unhide HLO b (.inr (.inl g)); omega
        · have := unhide HLO b (.inr (.inr (.inl g))); omega
        · have := unhide HLO b (.inr (.inr (.inr (.inl g)))); omega
        · exact hsp.vgs (g ▸ e)
      have hown := hsp.own
      obtain ⟨av, cv, rfl⟩ := hsp.own.shape
      have HSP := hide hsp
      have HOW := hide hown
      clear hsp hown
      generalize hcn : mixN (tab p.n s.c) l s.K = cn at *
      have HCN := hide hcn
      clear hcn
      go_wp2
      go_loopw [4, 27] (fun u i wx => ∃ t : Nat, t ≤ cn ∧ i = .int .i64 t ∧ OwnL .i64 3 wx w1.heap.size u (mdL s.K t) ∧ Below w1.heap.size w1 wx) (fun _ i _ => cn - (intOf i).toNat)
      case atStart => exact ⟨0, Nat.zero_le _, rfl, OwnL.nil _ _ _ _, Below.refl _ _⟩
      case round =>
        obtain ⟨t, ht, rfl, hu, hb⟩ := hrel
        by_cases hlt : t < cn
        · obtain ⟨gv, cv', e, -, -, -, gl, hcell⟩ := (unhide HOW).pos (by omega)
          cases e
          obtain ⟨cc, -, -, -, e0, e1⟩ := (unhide HCU) t (by rw [unhide HCN]; exact hlt)
          have q0 := hcell t 0 hlt (by omega)
          have q1 := hcell t 1 hlt (by omega)
          rw [e0, Nat.add_zero] at q0
          rw [e1] at q1
          have q0' : wr.cell? ⟨gv, t * 2, none⟩ = some (.int .i64 ((cc : Nat) : Int)) := by rw [hb.cell (by exact gl)]; exact q0
          have q1' : wr.cell? ⟨gv, t * 2 + 1, none⟩ = some (.int .i64 ((s.K + t : Nat) : Int)) := by rw [hb.cell (by exact gl)]; exact q1
          clear hcell q0 q1 e0 e1
          obtain ⟨au, cu, rfl, -, -, -, -, -⟩ := hu.shape
          have HU := hide hu
          have HB := hide hb
          clear hu hb
          have O1 : OwnL .i64 3 ((wr.alloc (.cells #[.int .i64 ((cc : Nat) : Int), .int .i64 (((s.K : Nat) : Int) + ((t : Nat) : Int))] 66)).alloc (.cells #[.int .i64 (((s.K : Nat) : Int) + ((t : Nat) : Int))] 3)) w1.heap.size (.slice au (mdL s.K t).length cu) (mdL s.K t) := ((unhide HU).alloc _).alloc _
          have R1 := RdL.one (q := .i64) (t := 3) (wr.alloc (.cells #[.int .i64 ((cc : Nat) : Int), .int .i64 (((s.K : Nat) : Int) + ((t : Nat) : Int))] 66)) (((s.K : Nat) : Int) + ((t : Nat) : Int))
          rw [World.size_alloc] at R1
          have hb2 : w1.heap.size ≤ ((wr.alloc (.cells #[.int .i64 ((cc : Nat) : Int), .int .i64 (((s.K : Nat) : Int) + ((t : Nat) : Int))] 66)).alloc (.cells #[.int .i64 (((s.K : Nat) : Int) + ((t : Nat) : Int))] 3)).heap.size := by have := (unhide HB).size; simp; omega
          have HO1 := hide O1
          have HR1 := hide R1
          have HB2 := hide hb2
          have hml := mdL_len s.K t
          have hbig : ((mdL s.K t).length + [((s.K : Nat) : Int) + ((t : Nat) : Int)].length) * 8 ≤ 140737488355328 := by rw [hml]; simp; omega
          have HBG := hide hbig
          clear O1 R1 hb2 hml hbig
          go_wp2_with (at_builtin; refine wpl_pushA eInt rfl (.tmp 31) (.tmp 34) rfl w1.heap.size _ (mdL s.K t) rfl (unhide HO1) ⟨wr.heap.size + 1, 0, none⟩ 1 [((s.K : Nat) : Int) + ((t : Nat) : Int)] rfl (unhide HR1) (unhide HBG) (unhide HB2) ?_; intro v4 w4 ho4 hb4 hg4 hat4; obtain ⟨a4, c4, rfl, -, -, -, -, -⟩ := ho4.shape)
          go_roundw
          case rel =>
            refine ⟨t + 1, by omega, by go_num, ?_, ?_⟩
            · rw [mdL_next, show ((s.K + t : Nat) : Int) = ((s.K : Nat) : Int) + ((t : Nat) : Int) by omega]; rw [show (mdL s.K t ++ [((s.K : Nat) : Int) + ((t : Nat) : Int)]).length = (mdL s.K t).length + 1 by simp] at ho4; exact ho4
            · have h0 := (unhide HB).size
              exact (((unhide HB).alloc h0 _).alloc (by simp; omega) _).trans hb4
          case measure => simp [intOf]; omega
        · obtain rfl : t = cn := by omega
          have HU := hide hu
          have HB := hide hb
          clear hu hb
          go_wp2
          go_ret2
          have hp := unhide HSP
          have hb := unhide HB
          have hz := hp.bx.size
          refine ⟨gs', cap', s', _, rfl, PtAt.below hp.at_ hb, hp.pi, by rw [hp.K, unhide HCN], hp.c, ?_, fun b e hk => ?_, hp.new, hp.bx.trans (Bx.of (X := p.has gs) hb) (fun _ _ h => h)⟩
          · have e1 : spM (tab p.n s.c) l s.K s.K = mdL s.K t := by unfold spM mdL; rw [unhide HCN]
            rw [e1]; exact (unhide HU).mono hz
          · have h1 := ((unhide HU).lt e).1
            have h2 := PtAt.lt hp.at_ hk
            omega
end Go.Proofs.Ytnakadlhafggkaa
