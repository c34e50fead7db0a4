/-
  The reference's Parse of layer 10: the answers of a text.
-/
import Derived.Test.YtagoilabphmdfaaEOwn
namespace Go.Proofs.Ytagoilabphmdfaa
open Go.RowKit

/-- The answers from a place on. -/
def prsA (b : List UInt8) : Nat → List An → Nat → List An × Int × Int
  | 0, l, _ => (l, 0, (b.length : Int))
  | f + 1, l, x =>
    if x < b.length then
      if l.length = 65536 then ([], 3, (x : Int))
      else if (lineV b x).2.2 ≠ 0 then ([], (lineV b x).2.2, (lineV b x).2.1)
      else prsA b f (l ++ [(lineV b x).1]) (lineV b x).2.1.toNat
    else (l, 0, (b.length : Int))
/-- P10.3. -/
def parV (b : List UInt8) : List An × Int × Int := if 16777216 < b.length then ([], 2, 0) else prsA b b.length [] 0
theorem nmsV_next (kd : Int) (b : List UInt8) : ∀ (f : Nat) (l : List Int) (i : Nat), (nmsV kd b f l i).2.2 = 0 → ∃ j : Nat, (nmsV kd b f l i).2.1 = (j : Int) ∧ i ≤ j
  | 0, l, i, _ => ⟨i, rfl, Nat.le_refl _⟩
  | f + 1, l, i, h => by
    unfold nmsV at h ⊢
    by_cases h1 : i < b.length ∧ bt8 b i ≠ 10
    · rw [if_pos h1] at h ⊢
      by_cases h2 : kd = 2 ∨ bt8 b i ≠ 32
      · rw [if_pos h2] at h; exact absurd (show (6 : Int) = 0 from h) (by decide)
      · rw [if_neg h2] at h ⊢
        by_cases h3 : l.length = 4096
        · rw [if_pos h3] at h; exact absurd (show (2 : Int) = 0 from h) (by decide)
        · rw [if_neg h3] at h ⊢
          by_cases h4 : (numV b (i + 1)).2.2 ≠ 0
          · rw [if_pos h4] at h; exact absurd h h4
          · rw [if_neg h4] at h ⊢
            obtain ⟨j, e, hj⟩ := nmsV_next kd b f _ _ h
            have := (numV_le (b := b) (i := i + 1) (by omega)).1
            exact ⟨j, e, by omega⟩
    · rw [if_neg h1]; exact ⟨i, rfl, Nat.le_refl _⟩
theorem lineV_next {b : List UInt8} {x : Nat} (h : (lineV b x).2.2 = 0) : ∃ n : Nat, (lineV b x).2.1 = (n : Int) ∧ x < n ∧ n ≤ b.length := by
  unfold lineV at h ⊢
  by_cases h0 : kdB (bt8 b x) = 0
  · rw [if_pos h0] at h; exact absurd (show (6 : Int) = 0 from h) (by decide)
  · rw [if_neg h0] at h ⊢
    unfold mkL at h ⊢
    by_cases h1 : (nmsV (kdB (bt8 b x)) b b.length [] (x + 1)).2.2 ≠ 0
    · rw [if_pos h1] at h; exact absurd h h1
    · rw [if_neg h1] at h ⊢
      obtain ⟨j, e, hj⟩ := nmsV_next (kdB (bt8 b x)) b b.length [] (x + 1) (by simpa using h1)
      by_cases h2 : (b.length : Int) ≤ (nmsV (kdB (bt8 b x)) b b.length [] (x + 1)).2.1
      · rw [if_pos h2] at h; exact absurd (show (6 : Int) = 0 from h) (by decide)
      · rw [if_neg h2]
        rw [e] at h2 ⊢
        exact ⟨j + 1, rfl, by omega, by omega⟩
theorem prsA_end {b : List UInt8} {f : Nat} {l : List An} {x : Nat} (h : ¬ x < b.length) : prsA b f l x = (l, 0, (b.length : Int)) := by
  cases f
  · rfl
  · unfold prsA; rw [if_neg h]
theorem prsA_many {b : List UInt8} {f : Nat} {l : List An} {x : Nat} (hf : b.length ≤ x + f) (h1 : x < b.length) (h2 : l.length = 65536) : prsA b f l x = ([], 3, (x : Int)) := by
  cases f
  · omega
  · unfold prsA; rw [if_pos h1, if_pos h2]
theorem prsA_bad {b : List UInt8} {f : Nat} {l : List An} {x : Nat} (hf : b.length ≤ x + f) (h1 : x < b.length) (h2 : l.length ≠ 65536) (h3 : (lineV b x).2.2 ≠ 0) : prsA b f l x = ([], (lineV b x).2.2, (lineV b x).2.1) := by
  cases f
  · omega
  · unfold prsA; rw [if_pos h1, if_neg h2, if_pos h3]
theorem prsA_step {b : List UInt8} {f : Nat} {l : List An} {x n : Nat} (hf : b.length ≤ x + f) (h1 : x < b.length) (h2 : l.length ≠ 65536) (h3 : (lineV b x).2.2 = 0) (hn : (lineV b x).2.1 = (n : Int)) : ∃ g, f = g + 1 ∧ prsA b f l x = prsA b g (l ++ [(lineV b x).1]) n := by
  cases f
  · omega
  · refine ⟨_, rfl, ?_⟩
    rw [prsA, if_pos h1, if_neg h2, if_neg (by rw [h3]; simp), hn]
    rfl
theorem wpl_pushPs {w : World} {ops : Array Oper} {rest : List Oper} {o : Oper} {a : Act} {Q : Exit → Act → World → Prop} (hgd : o.guard = none) (s y : Operand) (ho : o.op = .call { callee := .builtin .append, args := #[s, y], argTypes := #[30, 30] })
    (B : Nat) (v : Value) (l : List Pa) (hs : a.eval s = v) (h : OwnPs w B v l) (p : Pa) (hp : RdPa w p) (ha : ∀ x, (p.a1 = some x ∨ p.a2 = some x) → v.ownBlock ≠ some x.block ∧ x.block < w.heap.size) (g c : Nat) (hx : a.eval y = .slice (some ⟨g, 0, none⟩) 1 c) (hc : ∀ j, j < 3 → w.cell? ⟨g, j, none⟩ = (paC p)[j]?) (hl : l.length < 1000000) (hB : B ≤ w.heap.size)
    (h' : ∀ v' w', OwnPs w' B v' (l ++ [p]) → Below B w w' → wpList Try.prog ops Q rest (a.put o.dst v') w') :
    wpList Try.prog ops Q (o :: rest) a w := by
  refine wpList_plain hgd fun K hK => ?_
  obtain ⟨v', w', hrun, r1, r2⟩ := h.push o.type p hp ha g c hc hl hB
  unfold Oper.wp
  simp [execOp, ho, resolve, invoke, builtin, hs, hx, hrun, Result.andThen]
  exact hK _ _ (h' v' w' r1 r2)
theorem balA {w w1 : World} {B : Nat} (h : Below B w w1) (o : Obj) (hB : B ≤ w1.heap.size := by first | exact Nat.le_refl _ | simp) : Below B w (w1.alloc o) := h.alloc hB o
def PaPost (w : World) (r : List An × Int × Int) (e : Ending) (w' : World) : Prop :=
  ∃ a' c' l, e = .returned (.tuple #[.slice a' (List.length l) c', .int .i64 r.2.1, .int .i64 r.2.2]) ∧ RdPs w' a' l ∧ anL l = r.1 ∧ (∀ p ∈ l, p.an.out.length ≤ maxLen ∧ p.an.word.length ≤ maxLen) ∧ Below w.heap.size w w'
theorem RdPs.nil (w : World) (a : Option Addr) : RdPs w a [] := ⟨.inl rfl, fun _ h => (by cases h)⟩

set_option maxRecDepth 100000 in
set_option maxHeartbeats 4000000 in
theorem rparse_any (a : Option Addr) (c : Nat) (b : List UInt8) (w : World) (hr : RdL .u8 w a (zs b)) (hl : b.length ≤ maxLen) :
    Calls Try.prog 13 #[.slice a b.length c] w (PaPost w (parV b)) := by
  unfold maxLen at hl
  by_cases hm : 16777216 < b.length
  · have HE := hide (show parV b = ([], 2, 0) by unfold parV; rw [if_pos hm])
    have hm' : (b.length : Int) > 16777216 := by omega
    go_enter Try.func13, Try.ntmps13
    go_wp2
    go_ret3
    exact ⟨none, 0, [], by rw [unhide HE]; rfl, RdPs.nil _ _, by rw [unhide HE]; rfl, fun _ h => (by cases h), Below.refl _ _⟩
  have hm' : ¬ ((b.length : Int) > 16777216) := by omega
  have HP := hide (show parV b = prsA b b.length [] 0 by unfold parV; rw [if_neg hm])
  have HR := hide hr
  clear hr
  go_enter Try.func13, Try.ntmps13
  go_wp2
  go_loopw [5, 6] (fun ov iv wr => ∃ (l : List Pa) (x f : Nat), iv = .int .i64 (x : Int) ∧ x ≤ b.length ∧ b.length ≤ x + f ∧ l.length ≤ 65536 ∧ Hid (OwnPs wr w.heap.size ov l) ∧ Hid (∀ p ∈ l, p.an.out.length ≤ maxLen ∧ p.an.word.length ≤ maxLen) ∧ Below w.heap.size w wr ∧ Hid (prsA b b.length [] 0 = prsA b f (anL l) x)) (fun _ iv _ => b.length - (intOf iv).toNat)
  case atStart => exact ⟨[], 0, b.length, rfl, Nat.zero_le _, by omega, by simp, hide (OwnPs.nil _ _), hide (fun _ h => (by cases h)), Below.refl _ _, hide rfl⟩
  case round =>
    obtain ⟨l, x, f, rfl, hx, hf, hL, HO, HM, hB, HN⟩ := hrel
    have hsr := hB.size
    obtain ⟨a5, c5, rfl, hrd⟩ := (unhide HO).rd
    have HRD := hide hrd
    clear hrd
    have hal : (anL l).length = l.length := by simp [anL]
    by_cases h1 : x < b.length
    · have h1' : (x : Int) < (b.length : Int) := by omega
      by_cases h2 : l.length = 65536
      · have t19 : ((l.length : Int) == 65536) = true := by simp; omega
        have HE := hide ((unhide HP).trans ((unhide HN).trans (prsA_many hf h1 (by omega))))
        go_wp2
        go_ret3
        exact ⟨none, 0, [], by rw [unhide HE]; rfl, RdPs.nil _ _, by rw [unhide HE]; rfl, fun _ h => (by cases h), hB⟩
      · have t19 : ((l.length : Int) == 65536) = false := by simp; omega
        have hln := rline_any a c b x wr ((unhide HR).below hB) h1 (by omega)
        by_cases h3 : (lineV b x).2.2 = 0
        · obtain ⟨n, hn, hn1, hn2⟩ := lineV_next h3
          obtain ⟨g, rfl, hst⟩ := prsA_step (l := anL l) hf h1 (by omega) h3 hn
          have HS := hide ((unhide HN).trans hst)
          unfold LnPost at hln
          rw [h3, hn] at hln
          clear hst h3 hn HN
          generalize (lineV b x).1 = A at *
          go_wp2_with fail
          refine hln.mono ?_
          rintro e w1 ⟨vo, vw, rfl, ho, hw, hb1⟩
          obtain ⟨a1, c1, rfl, -, k1, k2, r1, s1⟩ := ho.shape
          obtain ⟨a2, c2, rfl, -, k3, k4, r2, s2⟩ := hw.shape
          have hs1 := hb1.size
          have hb2 : Below w1.heap.size w1 ((w1.alloc (.cells #[.int .i64 A.kind, .slice a1 A.out.length c1, .slice a2 A.word.length c2] 28)).alloc (.cells #[.int .i64 A.kind, .slice a1 A.out.length c1, .slice a2 A.word.length c2] 28)) := balA (balA (Below.refl _ _) _) _
          have OW := ((unhide HO).grown hb1).grown hb2
          have hp : RdPa ((w1.alloc (.cells #[.int .i64 A.kind, .slice a1 A.out.length c1, .slice a2 A.word.length c2] 28)).alloc (.cells #[.int .i64 A.kind, .slice a1 A.out.length c1, .slice a2 A.word.length c2] 28)) ⟨A, a1, c1, a2, c2⟩ := ⟨r1.below hb2, r2.below hb2⟩
          have hz2 := hb2.size
          have ha : ∀ x, (a1 = some x ∨ a2 = some x) → (Value.slice a5 l.length c5).ownBlock ≠ some x.block ∧ x.block < ((w1.alloc (.cells #[.int .i64 A.kind, .slice a1 A.out.length c1, .slice a2 A.word.length c2] 28)).alloc (.cells #[.int .i64 A.kind, .slice a1 A.out.length c1, .slice a2 A.word.length c2] 28)).heap.size := fun x hx => by
            have h : wr.heap.size ≤ x.block ∧ x.block < w1.heap.size := by
              rcases hx with e | e
              · exact s1 x e
              · exact s2 x e
            refine ⟨fun e => ?_, by omega⟩
            have := (World.ownsRow.lt (unhide HO).top _ e).2
            omega
          have hc : ∀ j, j < 3 → ((w1.alloc (.cells #[.int .i64 A.kind, .slice a1 A.out.length c1, .slice a2 A.word.length c2] 28)).alloc (.cells #[.int .i64 A.kind, .slice a1 A.out.length c1, .slice a2 A.word.length c2] 28)).cell? ⟨w1.heap.size + 1, j, none⟩ = (paC ⟨A, a1, c1, a2, c2⟩)[j]? := fun j hj => by
            rcases (by omega : j = 0 ∨ j = 1 ∨ j = 2) with rfl | rfl | rfl <;> simp [paC]
          have hBW : w.heap.size ≤ ((w1.alloc (.cells #[.int .i64 A.kind, .slice a1 A.out.length c1, .slice a2 A.word.length c2] 28)).alloc (.cells #[.int .i64 A.kind, .slice a1 A.out.length c1, .slice a2 A.word.length c2] 28)).heap.size := by omega
          have hbw := (hB.trans (hb1.mono hsr)).trans (hb2.mono (by omega))
          have HMN := hide (show ∀ p ∈ l ++ [⟨A, a1, c1, a2, c2⟩], p.an.out.length ≤ maxLen ∧ p.an.word.length ≤ maxLen from fun p hp => by
            rcases List.mem_append.1 hp with hp | hp
            · exact unhide HM p hp
            · rw [List.mem_singleton] at hp; subst hp; exact ⟨Nat.le_trans k1 k2, Nat.le_trans k3 k4⟩)
          have HSN := hide (show prsA b b.length [] 0 = prsA b g (anL (l ++ [⟨A, a1, c1, a2, c2⟩])) n by rw [unhide HS]; simp [anL])
          have HA := hide ha
          have HC := hide hc
          have HW := hide OW
          have HPP := hide hp
          clear HM HO HS ha hc OW hp s1 s2 r1 r2 k1 k2 k3 k4 hb2 hb1 HRD ho hw hln
          go_wp2_with (at_builtin; refine wpl_pushPs rfl (.tmp 32) (.tmp 34) rfl w.heap.size (.slice a5 l.length c5) l rfl (unhide HW) ⟨A, a1, c1, a2, c2⟩ (unhide HPP) (unhide HA) (w1.heap.size + 1) 1 rfl (unhide HC) (by omega) hBW ?_; intro v7 w7 ho7 hb7)
          exact ⟨⟨l ++ [⟨A, a1, c1, a2, c2⟩], n, g, rfl, by omega, by omega, by simp; omega, hide ho7, HMN, hbw.trans hb7, HSN⟩, by simp [intOf]; omega⟩
        · have t29 : ((lineV b x).2.2 != 0) = true := by simpa using h3
          have HE := hide ((unhide HP).trans ((unhide HN).trans (prsA_bad hf h1 (by omega) h3)))
          unfold LnPost at hln
          clear h3 HN
          generalize (lineV b x).2.2 = e9 at *
          generalize (lineV b x).2.1 = n9 at *
          generalize (lineV b x).1 = A at *
          go_wp2_with fail
          refine hln.mono ?_
          rintro e w1 ⟨vo, vw, rfl, ho, hw, hb1⟩
          obtain ⟨a1, c1, rfl, -, k1, k2, r1, s1⟩ := ho.shape
          obtain ⟨a2, c2, rfl, -, k3, k4, r2, s2⟩ := hw.shape
          go_wp2
          go_ret3
          exact ⟨none, 0, [], by rw [unhide HE]; rfl, RdPs.nil _ _, by rw [unhide HE]; rfl, fun _ h => (by cases h), (hB.trans (hb1.mono hsr)).alloc (by have := hb1.size; omega) _⟩
    · obtain rfl : x = b.length := by omega
      have HE := hide ((unhide HP).trans ((unhide HN).trans (prsA_end h1)))
      go_wp2
      go_ret3
      exact ⟨a5, c5, l, by rw [unhide HE]; rfl, unhide HRD, by rw [unhide HE], unhide HM, hB⟩

end Go.Proofs.Ytagoilabphmdfaa
