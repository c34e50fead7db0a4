/-
  What the program's moveToFront does: those of a list stand in front of their classes, and a map says of each class how many they are.
-/
import Derived.Test.YtnakadlhafggkaaQSwap
import Derived.Test.YtnakadlhafggkaaQMath
import Derived.Test.YtnakadlhafggkaaK1
import Derived.Test.YtnakadlhafggkaaK3
namespace Go.Proofs.Ytnakadlhafggkaa
open Go.RowKit Go.Maps

/-- The map says N. -/
def CSays (D : DataW Unit) (N : Nat → Nat) : Prop :=
  (∀ z : Int, Maps.has D (.int .i64 z) = decide (0 ≤ z ∧ 0 < N z.toNat)) ∧ ∀ c : Nat, D.atKey (.int .i64 (c : Int)) (.lit (.int .i64 0)) = .lit (.int .i64 ((N c : Nat) : Int))
def CMap (w : World) (g m : Nat) (N : Nat → Nat) : Prop := ∃ D : DataW Unit, w.ownsMap Try.prog 3 (plainElem Try.prog 3) g m D ∧ CSays D N
theorem CSays.start : CSays (.map []) (fun _ => 0) := ⟨fun z => by simp [Maps.has], fun c => rfl⟩
theorem CSays.step {D : DataW Unit} {N : Nat → Nat} (h : CSays D N) {c : Nat} (hD : IsMap D) (hk : WideAt.IsKeyLit (.int .i64 (c : Int))) : CSays (D.put (.int .i64 (c : Int)) (.lit (.int .i64 (((N c : Nat) : Int) + 1)))) (upd N c (N c + 1)) := by
  refine ⟨fun z => ?_, fun k => ?_⟩
  · by_cases e : z = (c : Int)
    · subst e
      rw [has_put_same hD hk, Int.toNat_natCast, upd_same]
      simp
    · rw [has_put_other (lit_ne e), h.1 z]
      by_cases z0 : 0 ≤ z
      · rw [upd_ne (by omega)]
      · rw [decide_eq_false (fun g => z0 g.1), decide_eq_false (fun g => z0 g.1)]
  · by_cases e : k = c
    · subst e
      rw [atKey_put_same hD hk, upd_same]
      simp
    · rw [atKey_put_other (lit_ne (by omega)), h.2 k, upd_ne e]
theorem CMap.keep {w w' : World} {g m : Nat} {N : Nat → Nat} (h : CMap w g m N) (e : w'.heap[g]? = w.heap[g]?) : CMap w' g m N := by
  obtain ⟨D, ⟨es, clock, hb, F, hs, hD⟩, hsay⟩ := h
  exact ⟨D, ⟨es, clock, e.trans hb, F, hs, hD⟩, hsay⟩
theorem CMap.lt {w : World} {g m : Nat} {N : Nat → Nat} (h : CMap w g m N) : g < w.heap.size := by
  obtain ⟨D, ho, _⟩ := h
  exact ho.lt
theorem CMap.look {w : World} {g m : Nat} {N : Nat → Nat} (h : CMap w g m N) {c : Nat} (hc : c ≤ 1099511627776) :
    (Instr.lookup 89 (.map (some g)) (.int .i64 (c : Int)) false).run Try.prog w = .ok (.int .i64 ((N c : Nat) : Int)) w := by
  obtain ⟨D, ho, hsay⟩ := h
  obtain ⟨x, hrun, hat, _⟩ := ho.lookup_int keyed64 Try.underlying89 Try.underlying3 (zeroInt _) (key64 (x := (c : Int)) (by omega) (by omega))
  rw [hsay.2 c] at hat
  cases hat
  exact hrun
theorem CMap.put {w : World} {g m : Nat} {N : Nat → Nat} (h : CMap w g m N) {c : Nat} (hc : c ≤ 1099511627776) (hm : m < maxLen) (hN : N c ≤ 1099511627776) :
    ∃ w', (Instr.mapUpdate 89 (.map (some g)) (.int .i64 (c : Int)) (.int .i64 (((N c : Nat) : Int) + 1))).run Try.prog w = .ok () w' ∧ CMap w' g (m + 1) (upd N c (N c + 1)) ∧ w.grownBy w' (some g) := by
  obtain ⟨D, ho, hsay⟩ := h
  have hk := key64 (x := (c : Int)) (by omega) (by omega)
  obtain ⟨w1, hrun, hm1, hg1⟩ := ho.update keyed64 Try.underlying89 hm hk (plainElem_int Try.underlying3 (WalkArith.wf_i64 (n := ((N c : Nat) : Int) + 1) (by omega)))
  exact ⟨w1, hrun, ⟨_, hm1, hsay.step ho.isMap (keyed64.key hk)⟩, hg1⟩

def St.F (s : St) (k i : Nat) : Int := if i = 0 then ((s.b k : Nat) : Int) else ((s.e k : Nat) : Int)
/-- The object lies in memory as s says. -/
def PtS (w : World) (p : Pp) (gs cap : Nat) (s : St) : Prop := PtAt w p gs cap s.K (tab p.n s.r) (tab p.n s.p) (tab p.n s.c) s.F

/-- Only the row has turned. -/
structure Like (s s' : St) : Prop where
  K : s'.K = s.K
  c : s'.c = s.c
  b : s'.b = s.b
  e : s'.e = s.e
/-- What moveToFront leaves. -/
structure MvPost (w : World) (p : Pp) (gs cap : Nat) (s : St) (l : List Int) (w' : World) (g : Nat) (s' : St) (N : Nat → Nat) : Prop where
  new : w.heap.size ≤ g
  at_ : PtS w' p gs cap s'
  pi : PI p.n s'
  like : Like s s'
  fr : Fr p.n s' N (fun x => (x : Int) ∈ l)
  map : CMap w' g l.length N
  bx : Bx (p.has gs) w w'
theorem Fr.congr {n : Nat} {s : St} {N : Nat → Nat} {D E : Nat → Prop} (h : Fr n s N D) (e : ∀ x, D x ↔ E x) : Fr n s N E := ⟨h.le, fun x hx => (e x).symm.trans (h.fr x hx), h.up⟩
theorem CMap.mono {w : World} {g m m' : Nat} {N : Nat → Nat} (h : CMap w g m N) (hm : m ≤ m') : CMap w g m' N := by
  obtain ⟨D, ho, hs⟩ := h
  exact ⟨D, ho.mono hm, hs⟩
theorem take_mem {l : List Int} {j : Nat} (hj : j < l.length) {x : Nat} (ex : l.getD j 0 = (x : Int)) (y : Nat) : ((y : Int) ∈ l.take j ∨ y = x) ↔ (y : Int) ∈ l.take (j + 1) := by
  have e : l.take (j + 1) = l.take j ++ [l.getD j 0] := by
    rw [List.take_add_one, List.getD, List.getElem?_eq_getElem hj]; rfl
  rw [e, List.mem_append, List.mem_singleton, ex]
  constructor
  · rintro (h | h)
    · exact .inl h
    · exact .inr (by omega)
  · rintro (h | h)
    · exact .inl h
    · exact .inr (by omega)

set_option maxHeartbeats 2000000 in
theorem move_any (p : Pp) (gs cap : Nat) (s0 : St) (a : Option Addr) (c : Nat) (l : List Int) (w : World) (h : PtS w p gs cap s0) (I0 : PI p.n s0) (hn : p.n ≤ 65536) (hl : l.length < maxLen) (hr : RdL .i64 w a l) (ha : ∀ x, a = some x → l.length ≠ 0 → ¬ p.has gs x.block) (hx : ∀ x ∈ l, 0 ≤ x ∧ x < (p.n : Int)) :
    Calls Try.prog 45 #[.pointer (some ⟨p.b, 0, none⟩), .slice a l.length c] w fun e w' => ∃ g s N, e = .returned (.map (some g)) ∧ MvPost w p gs cap s0 l w' g s N := by
  have hm : CMap (w.alloc (.map #[] 0)) w.heap.size 0 (fun _ => 0) := ⟨.map [], World.ownsMap_made w Try.prog _ _, CSays.start⟩
  have hgl : ∀ k, p.has gs k → k < w.heap.size := fun k hk => h.lt hk
  have HGL := hide hgl
  have H0 : Hid (PtS (w.alloc (.map #[] 0)) p gs cap s0) := PtAt.below h (ballo w _)
  have HM0 := hide hm
  have HI0 := hide I0
  have HF0 := hide (Fr.start I0)
  have HB0 := hide ((Bx.refl (p.has gs) w).alloc (.map #[] 0))
  have hl2 : l.length ≤ 9223372036854775807 := by unfold maxLen at hl; omega
  clear h hm I0 hgl
  have hmm := @run_makeMap Try.prog
  go_enter Try.func45, Try.ntmps45
  go_wp2
  go_loopw [13] (fun v wx => ∃ (j : Nat) (s : St) (N : Nat → Nat), j ≤ l.length ∧ v = .int .i64 j ∧ PtS wx p gs cap s ∧ PI p.n s ∧ Like s0 s ∧ Fr p.n s N (fun x => (x : Int) ∈ l.take j) ∧ CMap wx w.heap.size j N ∧ Bx (p.has gs) w wx) (fun v _ => l.length - (intOf v).toNat)
  case atStart => exact ⟨0, s0, _, Nat.zero_le _, rfl, unhide H0, unhide HI0, ⟨rfl, rfl, rfl, rfl⟩, (unhide HF0).congr (fun x => by simp), unhide HM0, unhide HB0⟩
  case round =>
    obtain ⟨j, s, N, hj, rfl, hat, hpi, hlike, hfr, hmap, hbx⟩ := hrel
    clear H0 HM0 HI0 HF0 HB0
    by_cases hlt : j < l.length
    · obtain ⟨ab, ao, rfl, hc⟩ := hr.at hlt
      have hcj := (hr.bx hbx (fun x e => ha x e (by omega))).at hlt
      obtain ⟨ab', ao', e', hc'⟩ := hcj
      cases e'
      have hcj := hc' j hlt
      clear hc hc'
      have hxr := hx (l.getD j 0) (gd_mem hlt)
      obtain ⟨x, ex⟩ := Int.eq_ofNat_of_zero_le hxr.1
      have hxn : x < p.n := by omega
      rw [ex] at hcj
      have HEX := hide ex
      clear ex hxr
      have c1 := hat.c1
      have c2 := hat.c2
      have c3 := hat.c3
      have hcx := (hat.cls hxn).1
      have hpx := (hat.plc hxn).1
      rw [tab_at _ hxn] at hcx hpx
      have hk := hpi.cc x hxn
      have hKn := hpi.Kn
      have hsp := hpi.sp _ hk
      have hbc := (hat.spn hk (i := 0) (by omega)).1
      rw [Nat.add_zero, show s.F (s.c x) 0 = ((s.b (s.c x) : Nat) : Int) from rfl] at hbc
      have hle := hfr.le _ hk
      have hpxn := hpi.pq x hxn
      have hin := hpi.inn x hxn
      have hlook : ∀ q, (Instr.lookup 89 (.map (some w.heap.size)) (.int .i64 ((s.c x : Nat) : Int)) false).run Try.prog (wr.drewN q) = .ok (.int .i64 ((N (s.c x) : Nat) : Int)) (wr.drewN q) := fun q => (hmap.keep (w' := wr.drewN q) rfl).look (by omega)
      have HAT := hide hat
      have HPI := hide hpi
      have HLK := hide hlike
      have HFR := hide hfr
      have HMP := hide hmap
      have HBX := hide hbx
      have HPX := hide hpxn
      clear hat hpi hlike hfr hmap hbx hpxn
      by_cases hp : s.b (s.c x) + N (s.c x) ≤ s.p x
      · have HP := hide hp
        have hrj := (unhide HPI).rr (s.b (s.c x) + N (s.c x)) (by omega)
        have hne : s.p x ≠ s.b (s.c x) + N (s.c x) → x ≠ s.r (s.b (s.c x) + N (s.c x)) := fun h1 h2 => h1 (by have h3 := hrj.2; rw [← h2] at h3; exact h3)
        have SW : ∀ q, Calls Try.prog 57 #[.pointer (some ⟨p.b, 0, none⟩), .int .i64 ((s.p x : Nat) : Int), .int .i64 (((s.b (s.c x) + N (s.c x) : Nat)) : Int)] (wr.drewN q) fun e w' => e = .returned (.tuple #[]) ∧ PtS w' p gs cap (s.swap (s.p x) (s.b (s.c x) + N (s.c x))) ∧ Bx (p.has gs) (wr.drewN q) w' := fun q => by
          refine (swap_any ((unhide HAT).draws q) (a := s.p x) (b := s.b (s.c x) + N (s.c x)) (x := x) (y := s.r (s.b (s.c x) + N (s.c x))) (by omega) (by omega) (by rw [tab_at _ (by omega), (unhide HPX).2]) (by rw [tab_at _ (by omega)]) hxn hrj.1 hne).mono ?_
          rintro e w' ⟨rfl, h1, h2⟩
          refine ⟨rfl, ?_, h2⟩
          unfold PtS
          rw [tab_set, tab_set, tab_set, tab_set] at h1
          have e1 : (s.swap (s.p x) (s.b (s.c x) + N (s.c x))).r = upd (upd s.r (s.p x) (s.r (s.b (s.c x) + N (s.c x)))) (s.b (s.c x) + N (s.c x)) x := by show upd _ _ (s.r (s.p x)) = _; rw [(unhide HPX).2]
          have e2 : (s.swap (s.p x) (s.b (s.c x) + N (s.c x))).p = upd (upd s.p (s.r (s.b (s.c x) + N (s.c x))) (s.p x)) x (s.b (s.c x) + N (s.c x)) := by show upd _ (s.r (s.p x)) _ = _; rw [(unhide HPX).2]
          rw [e1, e2]; exact h1
        have HSW := hide SW
        clear hne SW hrj
        generalize hcc : s.c x = cc at *
        generalize hbb : s.b cc = bb at *
        generalize hNN : N cc = NN at *
        generalize hpp : s.p x = px at *
        have HCC := hide hcc
        have HBB := hide hbb
        have HNN := hide hNN
        have HPP := hide hpp
        clear hcc hbb hNN hpp
        have hp2 : ((bb : Int) + (NN : Int)) ≤ (px : Int) := by omega
        go_wp2
        go_quiet (fail)
        go_wp2_with fail
        generalize hnq : wr.drewN _ = wq
        obtain ⟨nq, enq⟩ : ∃ nq, wr.drewN nq = wq := ⟨_, hnq⟩
        refine (enq ▸ (unhide HSW) nq : Calls Try.prog 57 _ wq _).mono ?_
        rintro e w1 ⟨rfl, hat1, hb1⟩
        have hbq : Bx (p.has gs) w w1 := by rw [← enq] at hb1; exact ((unhide HBX).draws nq).trans hb1 (fun _ _ h => h)
        have hgw := (unhide HMP).lt
        have hgk : ∀ k, p.has gs k → k ≠ w.heap.size := fun k hk => Nat.ne_of_lt ((unhide HGL) k hk)
        have hm1 : CMap w1 w.heap.size j N := (unhide HMP).keep (by rw [hb1.block _ (by rw [← enq]; exact hgw) (fun h => hgk _ h rfl), ← enq]; rfl)
        have hl1 := hm1.look (c := cc) (by omega)
        obtain ⟨w2, hrun2, hm2, hg2⟩ := hm1.put (c := cc) (by omega) (by omega) (by rw [unhide HNN]; omega)
        rw [unhide HNN] at hl1 hrun2 hm2
        have hat2 : PtS w2 p gs cap (s.swap px (bb + NN)) := PtAt.keep hat1 fun k hk => hg2.block k (PtAt.lt hat1 hk) (fun e => hgk k hk (by cases e; rfl))
        have hb2 : Bx (p.has gs) w w2 := hbq.grown hg2 (fun k e hk => by cases e; omega)
        have HAT2 := hide hat2
        have HM2 := hide hm2
        have HB2 := hide hb2
        clear hat1 hb1 hbq hgw hgk hm1 hm2 hat2 hb2 hg2 hnq hlook
        go_wp2
        go_roundw
        case rel =>
          have n1 := (unhide HFR).new (unhide HPI) hxn (by rw [unhide HCC, unhide HBB, unhide HNN, unhide HPP]; exact unhide HP)
          have p1 := (unhide HPI).swap (k := cc) (i := px) (j := bb + NN) hk (by rw [unhide HBB]; omega) (by omega) (by rw [unhide HBB]; omega) (by omega)
          rw [unhide HCC, unhide HBB, unhide HNN, unhide HPP] at n1
          exact ⟨j + 1, s.swap px (bb + NN), upd N cc (NN + 1), by omega, by go_num, unhide HAT2, p1, ⟨(unhide HLK).K, (unhide HLK).c, (unhide HLK).b, (unhide HLK).e⟩, n1.congr (take_mem hlt (unhide HEX)), unhide HM2, unhide HB2⟩
        case measure => simp [intOf]; omega
      · have HP := hide hp
        generalize hcc : s.c x = cc at *
        generalize hbb : s.b cc = bb at *
        generalize hNN : N cc = NN at *
        generalize hpp : s.p x = px at *
        have HCC := hide hcc
        have HBB := hide hbb
        have HNN := hide hNN
        have HPP := hide hpp
        clear hcc hbb hNN hpp
        have hp2 : (px : Int) < ((bb : Int) + (NN : Int)) := by omega
        go_wp2
        go_quiet (fail)
        go_wp2
        go_roundw
        case rel =>
          refine ⟨j + 1, s, N, by omega, by go_num, (unhide HAT).draws _, unhide HPI, unhide HLK, ((unhide HFR).old (x := x) (by rw [unhide HCC, unhide HBB, unhide HNN, unhide HPP]; have := unhide HP; omega)).congr (take_mem hlt (unhide HEX)), ((unhide HMP).mono (by omega)).keep rfl, (unhide HBX).draws _⟩
        case measure => simp [intOf]; omega
    · obtain rfl : j = l.length := by omega
      have HAT := hide hat
      have HPI := hide hpi
      have HLK := hide hlike
      have HFR := hide hfr
      have HMP := hide hmap
      have HBX := hide hbx
      clear hat hpi hlike hfr hmap hbx
      go_wp2
      go_ret
      exact ⟨w.heap.size, s, N, rfl, Nat.le_refl _, unhide HAT, unhide HPI, unhide HLK, (unhide HFR).congr (fun x => by rw [List.take_length]), unhide HMP, unhide HBX⟩
end Go.Proofs.Ytnakadlhafggkaa
