/-
  The program's row of entries: the word at a place, the places in the order of their words.
-/
import Derived.Test.YtemalidanjfmkaaNWalk
import Derived.Test.YtemalidanjfmkaaUWds
import Derived.Test.YtemalidanjfmkaaK19
import Derived.Test.YtemalidanjfmkaaK1
namespace Go.Proofs.Ytemalidanjfmkaa
open Go.RowKit

/-- make([]int, 1, n). -/
theorem wpl_make1 {w : World} {ops : Array Oper} {rest : List Oper} {o : Oper} {a : Act} {Q : Exit → Act → World → Prop} (hgd : o.guard = none) (l c : Operand) (ho : o.op = Op.makeSlice 29 l c) (B : Nat) (C : Int) (n : Nat)
    (hl : a.eval l = .int .i64 1) (hc : a.eval c = .int .i64 C) (hC : C = (n : Int)) (h1 : 1 ≤ n) (hn : n ≤ 1000000000) (hbase : B ≤ w.heap.size)
    (h : ∀ w', OwnL .i64 3 w' B (.slice (some ⟨w.heap.size, 0, none⟩) 1 n) [0] → Below B w w' → wpList Try.prog ops Q rest (a.put o.dst (.slice (some ⟨w.heap.size, 0, none⟩) 1 n)) w') :
    wpList Try.prog ops Q (o :: rest) a w := by
  obtain ⟨i, hi, hz0, hz1, hz2⟩ := info_parts eInt.info
  refine wpList_plain hgd fun K hK' => ?_
  have hr := run_make (P := Try.prog) w 29 3 i (.int .i64 0) eInt.und hi hz0 .i64 .i64 1 (n : Int) (by omega) (by omega) (by rw [hz2]; omega) (by omega)
  simp only [Int.toNat_natCast] at hr
  rw [hz1, Nat.mul_one, show (1 : Int).toNat = 1 from rfl] at hr
  subst hC
  unfold Oper.wp
  simp [execOp, ho, hl, hc, hr, Result.andThen]
  refine hK' _ _ (h _ ?_ ((Below.refl B w).grown (World.grownBy_alloc w _ none) hbase fun k hk => by cases hk))
  refine ⟨rfl, .inr ⟨w.heap.size, n, madeCells #[.int .i64 0] n, rfl, hbase, by show (w.heap.push _)[w.heap.size]? = _; simp [Value.cells], h1, by unfold maxLen; omega, by rw [size_madeCells]; omega, ?_⟩⟩
  rw [toList_madeCells_one]
  obtain ⟨m, rfl⟩ : ∃ m, n = m + 1 := ⟨n - 1, by omega⟩
  simp [List.replicate_succ]

theorem goesOn_any (p s c n : Int) (w : World) : Calls Try.prog 49 #[.agg #[.int .i64 p, .int .i64 s, .int .i64 c, .int .i64 n]] w fun e w' => e = .returned (.bool (c != 0)) ∧ Below w.heap.size w w' := by
  go_enter Try.func49, Try.ntmps49
  go_wp2
  go_ret
  exact ⟨rfl, ballo _ _⟩

/-- What spell leaves. -/
def SpePost (u : List Int) (w : World) (e : Ending) (w' : World) : Prop := ∃ v, e = .returned v ∧ OwnL .i64 3 w' w.heap.size v u ∧ Below w.heap.size w w'
theorem own_rev {w : World} {B : Nat} {v : Value} {l : List Int} (h : Own w B v l.length (fun k => l.getD (l.length - 1 - k) 0)) : OwnL .i64 3 w B v l.reverse := by
  have h2 : Own w B v l.reverse.length (fun i => l.reverse.getD i 0) := by
    rw [List.length_reverse]
    refine h.congr fun i hi => ?_
    rw [List.getD_eq_getElem?_getD, List.getD_eq_getElem?_getD, List.getElem?_reverse hi]
  exact list_of_own h2

set_option maxRecDepth 100000 in
set_option maxHeartbeats 2000000 in
theorem spell_any (R : List En) (bg : List (List Int)) (g cap p : Nat) (w : World) (T : Tr R bg) (hr : RdR w g R) (hp : p < R.length) (hl : R.length ≤ 1048576) :
    Calls Try.prog 50 #[.slice (some ⟨g, 0, none⟩) R.length cap, .int .i64 p] w fun e w' => SpePost (wa bg p) w e w' := by
  have HR := hide hr
  have HT := hide T
  clear hr T
  go_enter Try.func50, Try.ntmps50
  go_wp2
  go_loopw [1, 5] (fun x v wr => ∃ (q : Nat) (l : List Int), x = .int .i64 q ∧ Hid (q < R.length) ∧ Hid (l.length + q ≤ p) ∧ Hid (wa bg p = wa bg q ++ l.reverse) ∧ Hid (OwnL .i64 3 wr w.heap.size v l) ∧ Below w.heap.size w wr) (fun x _ _ => (intOf x).toNat)
  case atStart => exact ⟨p, [], rfl, hide hp, hide (by simp), hide (by simp), hide (OwnL.nil _ _ _ _), Below.refl _ _⟩
  case round =>
    obtain ⟨q, l, rfl, HQ, HL, HW, HO, hB⟩ := hrel
    obtain ⟨av, cv, rfl, hnil, hcv, hcm, hrd, hblk⟩ := (unhide HO).shape
    by_cases h0 : q = 0
    · have t0 : ((q : Int) != 0) = false := by simp [h0]
      have HE : Hid (wa bg p = l.reverse) := by show _ = _; rw [unhide HW, h0, (unhide HT).root]; rfl
      have hll : l.length ≤ 1048576 := by have := unhide HL; omega
      clear h0 hrd hblk HW
      by_cases hz : l.length = 0
      · have hlz : l = [] := List.length_eq_zero_iff.1 hz
        have hrv := reverse_none av cv wr
        have HF : Hid (SpePost (wa bg p) w (.returned (.slice av 0 cv)) wr) := ⟨_, rfl, by
          have := unhide HO
          rw [hlz] at this
          rw [unhide HE, hlz]; exact this, hB⟩
        rw [hz]
        clear hz hlz HE HO HL
        go_wp2_with fail
        refine hrv.mono ?_
        rintro e w1 ⟨rfl, rfl⟩
        go_wp2
        go_ret
        exact unhide HF
      · cases av with
        | none => exact absurd (hnil rfl).1 hz
        | some ad =>
          obtain ⟨ba, off, mm⟩ := ad
          have ho := own_of_list (unhide HO)
          obtain ⟨g', c', e', -, -, hBg, -, -, -⟩ := ho.pos (by omega)
          cases e'
          have hrv := reverse_any w.heap.size ba cv l.length (fun i => l.getD i 0) wr ho (by omega) (by omega)
          have HF : Hid (∀ w1, RevPost w.heap.size ba cv l.length (fun i => l.getD i 0) wr (.returned (.tuple #[])) w1 → SpePost (wa bg p) w (.returned (.slice (some ⟨ba, 0, none⟩) l.length cv)) w1) := fun w1 h => by
            obtain ⟨-, h1, h2, h3⟩ := h
            refine ⟨_, rfl, by rw [unhide HE]; exact own_rev h1, hB.trans (h2.below (fun k hk => by cases hk; exact hBg) hB.size)⟩
          have HLE : Hid (l.length = l.length) := rfl
          clear HE HO HL ho hnil hcv
          generalize hLL : l.length = LL at *
          clear hLL
          go_wp2_with fail
          refine hrv.mono ?_
          intro e w1 h
          obtain rfl : e = .returned (.tuple #[]) := h.1
          have HG := hide (unhide HF w1 h)
          clear h HF hrv
          go_wp2
          go_ret
          exact unhide HG
    · have t0 : ((q : Int) != 0) = true := by simp [h0]
      have hq := unhide HQ
      have hq' : (q : Int) < (R.length : Int) := by omega
      have r := (unhide HR).below hB
      have c1 := r.s hq
      obtain ⟨p1, p2⟩ := (unhide HT).par q (by omega) hq
      have HP1 : Hid ((ea R q).p < q) := p1
      have HW2 : Hid (wa bg p = wa bg (ea R q).p ++ (l ++ [(ea R q).s]).reverse) := by
        show _ = _
        rw [unhide HW, p2]; simp
      have HC0 : Hid (∀ wx, Below w.heap.size w wx → wx.cell? ⟨g, q * 6, none⟩ = some (.int .i64 ((ea R q).p : Int))) := fun wx hx => ((unhide HR).below hx).p hq
      generalize (ea R q).s = X at *
      generalize (ea R q).p = Y at *
      have hll : l.length ≤ 1048576 := by have := unhide HL; omega
      clear r p1 p2 h0 HW hrd hblk hq
      go_wp2_with (at_builtin; refine wpl_pushL eInt rfl (.tmp 14) (.tmp 21) rfl w.heap.size _ l rfl (OwnL.alloc (unhide HO) _) (some ⟨wr.heap.size, 0, none⟩) 1 [X] rfl (RdL.one _ _) (fun e => by cases e) (by simp only [List.length_cons, List.length_nil]; omega) (by have := hB.size; simp; omega) ?_; intro v8 w8 ho8 hb8 hg8; have hB8 : Below w.heap.size w w8 := (balloc hB _).trans hb8; have c0 := unhide HC0 w8 hB8)
      go_roundw
      case rel => exact ⟨Y, l ++ [X], rfl, hide (by have := unhide HP1; have := unhide HQ; omega), hide (by have := unhide HL; have := unhide HP1; simp; omega), HW2, hide ho8, hB8⟩
      case measure => have := unhide HP1; simp [intOf]; omega

/-- What inOrder leaves. -/
def InoPost (R : List En) (bg : List (List Int)) (w : World) (e : Ending) (w' : World) : Prop :=
  ∃ v P, e = .returned v ∧ Ino R bg P P.length ∧ OwnL .i64 3 w' w.heap.size v (ni P) ∧ Below w.heap.size w w'
set_option maxRecDepth 100000 in
set_option maxHeartbeats 2000000 in
theorem inOrder_any (R : List En) (bg : List (List Int)) (g cap : Nat) (w : World) (T : Tr R bg) (hr : RdR w g R) (hl : R.length ≤ 1048576) :
    Calls Try.prog 48 #[.slice (some ⟨g, 0, none⟩) R.length cap] w fun e w' => InoPost R bg w e w' := by
  have HR := hide hr
  have HT := hide T
  have h1 := T.pos
  clear hr T
  go_enter Try.func48, Try.ntmps48
  go_wp2_with (at_make; refine wpl_make1 rfl (.const (.int .i64 1)) (.tmp 7) rfl w.heap.size _ R.length rfl rfl (by go_num) (by omega) (by omega) (Nat.le_refl _) ?_; intro w1 ho1 hb1)
  have HO1 := hide ho1
  clear ho1
  go_loopw [3, 4] (fun v x wr => ∃ (i : Nat) (P : List Nat), x = .int .i64 i ∧ Hid (i ≤ P.length) ∧ Hid (Ino R bg P i) ∧ Hid (OwnL .i64 3 wr w.heap.size v (ni P)) ∧ Below w.heap.size w wr) (fun _ x _ => R.length - (intOf x).toNat)
  case atStart => exact ⟨0, [0], rfl, hide (by simp), hide (Ino.start (unhide HT)), HO1, hb1⟩
  case round =>
    obtain ⟨i, P, rfl, HI, HN, HO, hB⟩ := hrel
    clear HO1 hb1
    obtain ⟨av, cv, rfl, hnil, hcv, hcm, hrd, hblk⟩ := (unhide HO).shape
    rw [ni_len] at hnil hcv
    rw [ni_len]
    have hPR := (unhide HN).len
    by_cases hlt : i < P.length
    · have hlt' : (i : Int) < (P.length : Int) := by omega
      obtain ⟨b, off, rfl, hc⟩ := hrd.at (i := i) (by rw [ni_len]; omega)
      have c0 := hc i (by rw [ni_len]; omega)
      rw [ni_at] at c0
      have hal := (unhide HN).lt _ (gn_mem hlt)
      have hal' : ((P.getD i 0 : Nat) : Int) < (R.length : Int) := by omega
      have c1 := ((unhide HR).below hB).c hal
      have HK := hide ((unhide HN).begin (unhide HT) hlt)
      have HO' : Hid (OwnL .i64 3 wr w.heap.size (.slice (some ⟨b, off, none⟩) P.length cv) (ni P)) := by
        have := unhide HO
        rwa [ni_len] at this
      generalize (ea R (P.getD i 0)).c = Y at *
      generalize P.getD i 0 = A at *
      clear hc hrd hblk hnil hcv hcm HN HO hal
      go_wp2
      go_loopw [3, 5] (fun v x wr => ∃ (y : Nat) (P : List Nat), x = .int .i64 y ∧ Hid (Ink R bg P i y) ∧ Hid (OwnL .i64 3 wr w.heap.size v (ni P)) ∧ Below w.heap.size w wr) (fun _ x _ => msr R (intOf x).toNat)
      case atStart => exact ⟨Y, P, rfl, HK, HO', hB⟩
      case round =>
        obtain ⟨y, P2, rfl, HK2, HO2, hB2⟩ := hrel
        clear HK HO' c0 c1 hB
        by_cases h0 : y = 0
        · have t0 : ((y : Int) != 0) = false := by simp [h0]
          have HK3 : Hid (Ino R bg P2 (i + 1)) := by
            have := unhide HK2
            rw [h0] at this
            exact this.done
          have hi2 := (unhide HK2).hi
          have hl2 := (unhide HK2).len
          clear h0 HK2
          go_wp2
          go_roundw
          case rel => exact ⟨i + 1, P2, by go_num, hide (by omega), HK3, HO2, hB2⟩
          case measure => simp [intOf]; omega
        · have t0 : ((y : Int) != 0) = true := by simp [h0]
          have hk := (unhide HK2).yk h0
          have hyl : (y : Int) < (R.length : Int) := by have := hk.2.1; omega
          have HC0 : Hid (∀ wx, Below w.heap.size w wx → wx.cell? ⟨g, y * 6 + 3, none⟩ = some (.int .i64 ((ea R y).n : Int))) := fun wx hx => ((unhide HR).below hx).n hk.2.1
          have HKN := hide ((unhide HK2).next (unhide HT) h0)
          have HM := hide ((unhide HT).msr_kid hk)
          have hl2 := (unhide HK2).len
          obtain ⟨a2, c2, rfl, -, -, -, -, -⟩ := (unhide HO2).shape
          have hnl : (ni P2).length = P2.length := ni_len P2
          clear h0 hk HK2
          generalize (ea R y).n = Z at *
          go_wp2_with (at_builtin; refine wpl_pushL eInt rfl (.tmp 32) (.tmp 34) rfl w.heap.size _ (ni P2) rfl (OwnL.alloc (unhide HO2) _) (some ⟨wr.heap.size, 0, none⟩) 1 [(y : Int)] rfl (RdL.one _ _) (fun e => by cases e) (by rw [hnl]; simp only [List.length_cons, List.length_nil]; omega) (by have := hB2.size; simp; omega) ?_; intro v8 w8 ho8 hb8 hg8; have hB8 : Below w.heap.size w w8 := (balloc hB2 _).trans hb8; have c0 := unhide HC0 w8 hB8)
          go_roundw
          case rel => exact ⟨Z, P2 ++ [y], rfl, HKN, hide (by rw [ni_snoc]; exact ho8), hB8⟩
          case measure => exact unhide HM
    · have HE : Hid (Ino R bg P P.length) := by
        have h2 := unhide HI
        obtain rfl : i = P.length := by omega
        exact unhide HN
      have hlt' : ¬ (i : Int) < (P.length : Int) := by omega
      have HO' : Hid (OwnL .i64 3 wr w.heap.size (.slice av P.length cv) (ni P)) := by
        have := unhide HO
        rwa [ni_len] at this
      clear hlt hrd hblk hnil hcv hcm HN HO HI hPR
      go_wp2
      go_ret
      exact ⟨_, P, rfl, unhide HE, unhide HO', hB⟩

end Go.Proofs.Ytemalidanjfmkaa
