/-
  Some texts of this seat, one behind the other.
-/
import Derived.Test.YtoiogggibfmncaaK2
import Derived.Test.YtoiogggibfmncaaK6
import Derived.Test.YtoiogggibfmncaaK7
import Derived.Test.YtoiogggibfmncaaK8
import Derived.Test.YtoiogggibfmncaaK9
/-
  What the program's firstRows and saidIn return.
-/
namespace Go.Proofs.Ytoiogggibfmncaa
open Go.RowKit Go.Maps

/-- What the empty word sees. -/
def F0 (m : Mc) (s i : Nat) : Int := if m.kind = 1 ∧ i = 0 then m.out.getD s 0 else 0
/-- The rows of the first s states, the others empty. -/
def F0s (m : Mc) (t s i : Nat) : Int := if s < t then F0 m s i else 0
theorem F0s_zero (m : Mc) (s i : Nat) : F0s m 0 s i = 0 := by simp [F0s]
theorem F0s_next {m : Mc} (hk : m.kind = 1) (t : Nat) (s i : Nat) : setR t 0 (m.out.getD t 0) (F0s m t) s i = F0s m (t + 1) s i := by
  unfold setR F0s F0
  by_cases e : s = t
  · subst e
    by_cases c : i = 0
    · subst c; simp [hk]
    · simp [c]
  · have : (s < t) ↔ (s < t + 1) := by omega
    simp [e, this]

set_option maxHeartbeats 1000000 in
theorem firstRows_any (m : Mc) (a1 : Option Addr) (c1 : Nat) (a2 : Option Addr) (c2 : Nat) (w : World) (R : Right m) (o1 : m.o ≤ 64) (h2 : RdL .i64 w a2 m.out) :
    Calls Try.prog 41 #[mval m a1 c1 a2 c2] w fun e w' => ∃ v, e = .returned v ∧ OwnR w' w.heap.size v m.n.toNat (F0 m) ∧ Below w.heap.size w w' := by
  unfold mval
  have B0 := Box.alloc w m a1 c1 a2 c2 24
  have b0 := ballo w (.cells #[.int .i64 m.kind, .int .i64 m.k, .int .i64 m.o, .int .i64 m.n, .slice a1 m.nx.length c1, .slice a2 m.out.length c2] 24)
  have z0 : (w.alloc (.cells #[.int .i64 m.kind, .int .i64 m.k, .int .i64 m.o, .int .i64 m.n, .slice a1 m.nx.length c1, .slice a2 m.out.length c2] 24)).heap.size = w.heap.size + 1 := by simp
  have n0 := R.n0
  have n1 := R.n1
  have hnn : m.n = ((m.n.toNat : Nat) : Int) := by omega
  have HNN := hide hnn
  have HR := hide R
  by_cases hk : m.kind = 1
  · have tk : (m.kind == 1) = true := by simpa using hk
    have HK := hide hk
    have hol : m.out.length = m.n.toNat := by have := R.outD hk; omega
    have HL := hide hol
    clear R hk hnn hol
    go_enter Try.func41, Try.ntmps41
    go_wp2_with (at_make; refine wplR_make rfl (.tmp 6) (.tmp 6) rfl (w.heap.size + 1) _ _ m.n.toNat rfl rfl (unhide HNN) (unhide HNN) (by omega) (by rw [z0]; omega) ?_; intro w1 hown1 hb1; obtain ⟨q0, q1, q2, q3, q4, q5⟩ := box_on B0 hb1 (by omega))
    obtain ⟨w0, hw0⟩ : ∃ w0, w0 = w.alloc (.cells #[.int .i64 m.kind, .int .i64 m.k, .int .i64 m.o, .int .i64 m.n, .slice a1 m.nx.length c1, .slice a2 m.out.length c2] 24) := ⟨_, rfl⟩
    rw [← hw0] at B0 b0 z0 hb1 hown1
    have HS := hide z0
    rw [z0] at hown1
    have HO := hide (hown1.congr fun s i _ _ => (F0s_zero m s i).symm)
    have HB := hide hb1
    clear hown1 hb1 hw0 q0 q1 q2 q3 q4 q5 z0
    go_loopw [13] (fun a wx => ∃ s : Nat, s ≤ m.n.toNat ∧ a = .int .i64 s ∧ OwnR wx (w.heap.size + 1) (.slice (some ⟨w.heap.size + 1, 0, none⟩) m.n.toNat m.n.toNat) m.n.toNat (F0s m s) ∧ Below (w.heap.size + 1) w0 wx) (fun a _ => m.n.toNat - (intOf a).toNat)
    case atStart => exact ⟨0, Nat.zero_le _, rfl, unhide HO, unhide HB⟩
    case round =>
      obtain ⟨s, hs, rfl, hown, hb⟩ := hrel
      clear HO HB
      have HO := hide hown
      have HB := hide hb
      obtain ⟨p0, p1, p2, p3, p4, p5⟩ := box_on B0 hb (by omega)
      by_cases hlt : s < m.n.toNat
      · have hlt' : (s : Int) < m.n := by omega
        have hlt2 : (s : Int) < ((m.n.toNat : Nat) : Int) := by omega
        obtain ⟨b', off', rfl, hc⟩ := (h2.below (b0.trans (hb.mono (by omega)))).at (i := s) (by rw [unhide HL]; exact hlt)
        have hcs := hc s (by rw [unhide HL]; exact hlt)
        have hlt3 : (s : Int) < (m.out.length : Int) := by rw [unhide HL]; exact hlt2
        obtain ⟨g, cap, e, -, -, -, -, hR, hf⟩ := hown.pos (by omega)
        cases e
        have kc : wr.cell? ⟨w.heap.size + 1, s * 128, none⟩ = some (.int .u8 (F0s m s s 0)) := hR.cell s 0 hlt (by omega)
        have kf := hf (s * 128)
        have hx := (unhide HR).so s (by rw [unhide HL]; exact hlt)
        have HX := hide (F0s_next (unhide HK) s)
        generalize m.out.getD s 0 = x at *
        clear hc hR hf hown hb
        go_wp2
        go_region
        all_goals
          go_wp2
          go_roundw
          case rel =>
            have h9 : OwnR (wr.drew.setCell ⟨w.heap.size + 1, s * 128, none⟩ (.int .u8 x)) _ _ _ _ := (unhide HO).drew.store (s := s) (i := 0) (by omega) x
            exact ⟨s + 1, by omega, by go_num, h9.congr fun t i _ _ => unhide HX t i, ((unhide HB).trans (bdrew1 wr |>.mono (by have := (unhide HB).size; have := unhide HS; omega))).setCell (p := ⟨w.heap.size + 1, s * 128, none⟩) (by simp) _⟩
          case measure => simp [intOf]; omega
      · have he : s = m.n.toNat := by omega
        subst he
        go_wp2
        go_ret
        exact ⟨_, rfl, (hown.congr fun t i ht _ => by unfold F0s; rw [if_pos ht]).mono (by omega), b0.trans (hb.mono (by omega))⟩
  · have tk : (m.kind == 1) = false := by simpa using hk
    have HK := hide hk
    clear R hk hnn
    go_enter Try.func41, Try.ntmps41
    go_wp2_with (at_make; refine wplR_make rfl (.tmp 6) (.tmp 6) rfl (w.heap.size + 1) _ _ m.n.toNat rfl rfl (unhide HNN) (unhide HNN) (by omega) (by rw [z0]; omega) ?_; intro w1 hown1 hb1; obtain ⟨q0, q1, q2, q3, q4, q5⟩ := box_on B0 hb1 (by omega))
    go_ret
    rw [z0] at hown1
    exact ⟨_, rfl, (hown1.congr (G := F0 m) fun t i _ _ => by unfold F0; rw [if_neg (fun h => unhide HK h.1)]).mono (B' := w.heap.size) (by omega), b0.trans (hb1.mono (by omega))⟩

/-- saidIn: the piece of Out that is s's. -/
theorem saidIn_any (m : Mc) (a1 : Option Addr) (c1 : Nat) (a2 : Option Addr) (c2 : Nat) (s : Nat) (w : World) (R : Right m) (hs : (s : Int) < m.n) (h2 : RdL .i64 w a2 m.out) (hc2 : m.out.length ≤ c2) :
    Calls Try.prog 47 #[mval m a1 c1 a2 c2, .int .i64 s] w fun e w' => ∃ a c, e = .returned (.slice (some a) (pp m) c) ∧ (∀ w3, RdL .i64 w3 a2 m.out → RdL .i64 w3 (some a) (rowO m s (pp m))) ∧ Below w.heap.size w w' := by
  unfold mval
  have b0 := ballo w (.cells #[.int .i64 m.kind, .int .i64 m.k, .int .i64 m.o, .int .i64 m.n, .slice a1 m.nx.length c1, .slice a2 m.out.length c2] 24)
  have hpp := pp_le R
  have hol := out_len R
  have n0 := R.n0
  have n1 := R.n1
  have hdiv : (m.out.length : Int) / m.n = (pp m : Int) := by rw [hol, Int.mul_comm]; exact Int.mul_ediv_cancel _ (by omega)
  have ho1 : m.out.length ≤ 65536 := by
    have h4 : m.n * (pp m : Int) ≤ 1024 * 64 := Int.mul_le_mul n1 (by omega) (by omega) (by omega)
    omega
  obtain ⟨Q, hQ, hQ2, hQl, hQ3⟩ := said_of R (s := (s : Int)) (by omega) hs
  obtain ⟨b2, off2, rfl, -⟩ := (h2.below b0).at (i := Q) (by omega)
  have hrO : ∀ w3, RdL .i64 w3 (some ⟨b2, off2, none⟩) m.out → RdL .i64 w3 (some ⟨b2, off2 + Q, none⟩) (rowO m s (pp m)) := fun w3 h9 => by
    obtain ⟨b9, off9, e9, hm⟩ := h9.at (i := Q) (by omega)
    cases e9
    refine .inr ⟨b2, off2 + Q, rfl, fun j hj => ?_⟩
    rw [rowO_len] at hj
    have h3 := hm (Q + j) (by omega)
    have e : (rowO m s (pp m)).getD j 0 = m.out.getD (Q + j) 0 := by
      unfold rowO
      simp only [List.getD, List.getElem?_map, List.getElem?_range hj, Option.map_some, Option.getD_some]
      congr 2
      rw [hQ]; omega
    rw [e, Nat.add_assoc]
    exact h3
  have HRO := hide hrO
  have HB := hide b0
  have hd0 : 0 ≤ (m.out.length : Int) / m.n := by rw [hdiv]; omega
  have hd1 : (m.out.length : Int) / m.n ≤ 64 := by rw [hdiv]; omega
  have sl0 : 0 ≤ (Q : Int) + (pp m : Int) := by omega
  have sl1 : (Q : Int) + (pp m : Int) ≤ (c2 : Int) := by omega
  have sl2 : ((Q : Int) + (pp m : Int)).toNat = Q + pp m := by omega
  have sl3 : ¬ c2 = Q := by omega
  have hz9 : 0 ≤ (s : Int) * (pp m : Int) := by omega
  have hp1 : (pp m : Int) ≤ 64 := by omega
  have hp0 : 1 ≤ (pp m : Int) := by omega
  have wr1 : IntKind.i64.wrap (Q : Int) = Q := by rw [IntKind.wrap_i64]; omega
  have wr2 : IntKind.i64.wrap ((Q : Int) + (pp m : Int)) = (Q : Int) + (pp m : Int) := by rw [IntKind.wrap_i64]; omega
  clear hrO hol b0 R
  go_enter Try.func47, Try.ntmps47
  go_wp2
  go_ret
  exact ⟨⟨b2, off2 + Q, none⟩, c2 - Q, rfl, unhide HRO, unhide HB⟩

end Go.Proofs.Ytoiogggibfmncaa

/-
  What the program's rowsBy returns.
-/
namespace Go.Proofs.Ytoiogggibfmncaa
open Go.RowKit Go.Maps

/-- What s says, and the classes to which it leads. -/
def Fb (m : Mc) (C : List Int) (s i : Nat) : Int :=
  if i < 64 then (if i < pp m then (rowO m s (pp m)).getD i 0 else 0) else (if ((i - 64 : Nat) : Int) < m.k then C.getD (nxt m s ((i - 64 : Nat) : Int)).toNat 0 else 0)
/-- In the making: the first t rows, of the next one p and q numbers. -/
def FbP (m : Mc) (C : List Int) (t p q s i : Nat) : Int :=
  if s < t then Fb m C s i else if s = t then (if i < 64 then (if i < p then Fb m C t i else 0) else (if i - 64 < q then Fb m C t i else 0)) else 0
theorem FbP_zero (m : Mc) (C : List Int) (s i : Nat) : FbP m C 0 0 0 s i = 0 := by
  unfold FbP
  rw [if_neg (by omega)]
  split
  · split
    · rw [if_neg (by omega)]
    · rw [if_neg (by omega)]
  · rfl
theorem FbP_said {m : Mc} {C : List Int} {t p : Nat} (hp : p < pp m) (h64 : pp m ≤ 64) (s i : Nat) : setR t p ((rowO m t (pp m)).getD p 0) (FbP m C t p 0) s i = FbP m C t (p + 1) 0 s i := by
  unfold setR
  by_cases e : s = t ∧ i = p
  · obtain ⟨rfl, rfl⟩ := e
    rw [if_pos ⟨rfl, rfl⟩]
    unfold FbP Fb
    rw [if_neg (by omega), if_pos rfl, if_pos (by omega), if_pos (by omega), if_pos (by omega), if_pos hp]
  · rw [if_neg e]
    unfold FbP
    by_cases c : s < t
    · rw [if_pos c, if_pos c]
    · rw [if_neg c, if_neg c]
      by_cases d : s = t
      · subst d
        have hi : i ≠ p := fun h => e ⟨rfl, h⟩
        rw [if_pos rfl, if_pos rfl]
        by_cases f : i < 64
        · rw [if_pos f, if_pos f]
          by_cases g : i < p
          · rw [if_pos g, if_pos (by omega)]
          · rw [if_neg g, if_neg (by omega)]
        · rw [if_neg f, if_neg f]
      · rw [if_neg d, if_neg d]
theorem FbP_next {m : Mc} {C : List Int} {t p q : Nat} (hq : (q : Int) < m.k) (s i : Nat) : setR t (64 + q) (C.getD (nxt m t (q : Int)).toNat 0) (FbP m C t p q) s i = FbP m C t p (q + 1) s i := by
  unfold setR
  by_cases e : s = t ∧ i = 64 + q
  · obtain ⟨rfl, rfl⟩ := e
    have hd : 64 + q - 64 = q := by omega
    rw [if_pos ⟨rfl, rfl⟩]
    unfold FbP Fb
    rw [if_neg (by omega), if_pos rfl, if_neg (by omega), if_pos (by omega), if_neg (by omega), hd, if_pos hq]
  · rw [if_neg e]
    unfold FbP
    by_cases c : s < t
    · rw [if_pos c, if_pos c]
    · rw [if_neg c, if_neg c]
      by_cases d : s = t
      · subst d
        have hi : i ≠ 64 + q := fun h => e ⟨rfl, h⟩
        rw [if_pos rfl, if_pos rfl]
        by_cases f : i < 64
        · rw [if_pos f, if_pos f]
        · rw [if_neg f, if_neg f]
          by_cases g : i - 64 < q
          · rw [if_pos g, if_pos (by omega)]
          · rw [if_neg g, if_neg (by omega)]
      · rw [if_neg d, if_neg d]
theorem FbP_full {m : Mc} {C : List Int} {t : Nat} {q : Nat} (hq : (q : Int) = m.k) (s i : Nat) : FbP m C t (pp m) q s i = FbP m C (t + 1) 0 0 s i := by
  unfold FbP
  by_cases c : s < t
  · rw [if_pos c, if_pos (by omega)]
  · rw [if_neg c]
    by_cases d : s = t
    · subst d
      rw [if_pos rfl, if_pos (show s < s + 1 by omega)]
      by_cases f : i < 64
      · rw [if_pos f]
        by_cases g : i < pp m
        · rw [if_pos g]
        · rw [if_neg g]; unfold Fb; rw [if_pos f, if_neg g]
      · rw [if_neg f]
        by_cases g : i - 64 < q
        · rw [if_pos g]
        · rw [if_neg g]; unfold Fb; rw [if_neg f, if_neg (by omega)]
    · rw [if_neg d]
      by_cases e : s = t + 1
      · rw [if_neg (by omega), if_pos e]
        split
        · rw [if_neg (by omega)]
        · rw [if_neg (by omega)]
      · rw [if_neg (by omega), if_neg e]

/-- What holds on the way. -/
structure BInv (n : Nat) (w w0 wx : World) (F : Nat → Nat → Int) : Prop where
  own : OwnR wx (w.heap.size + 1) (.slice (some ⟨w.heap.size + 1, 0, none⟩) n n) n F
  bl : Below (w.heap.size + 1) w0 wx
theorem BInv.store {n : Nat} {w w0 wx : World} {F G : Nat → Nat → Int} (h : BInv n w w0 wx F) {s i : Nat} (hi : i < 128) {x : Int} {v : Value} (hv : v = rc i x) (hG : ∀ t j, setR s i x F t j = G t j) :
    BInv n w w0 (wx.setCell ⟨w.heap.size + 1, s * 128 + i, none⟩ v) G := by
  subst hv
  exact ⟨(h.own.store hi x).congr fun t j _ _ => hG t j, h.bl.setCell (p := ⟨w.heap.size + 1, s * 128 + i, none⟩) (by simp) _⟩
theorem BInv.drew {n : Nat} {w w0 wx : World} {F : Nat → Nat → Int} (h : BInv n w w0 wx F) : BInv n w w0 wx.drew F := ⟨h.own.drew, h.bl.trans ((bdrew1 wx).mono (by have := World.ownsRow.lt h.own _ rfl; omega))⟩
theorem BInv.cell {n : Nat} {w w0 wx : World} {F : Nat → Nat → Int} (h : BInv n w w0 wx F) {s i : Nat} (hs : s < n) (hi : i < 128) : wx.cell? ⟨w.heap.size + 1, s * 128 + i, none⟩ = some (rc i (F s i)) ∧ wx.frozen? ⟨w.heap.size + 1, s * 128 + i, none⟩ = false := by
  obtain ⟨g, cap, e, -, -, -, -, hR, hf⟩ := h.own.pos (by omega)
  cases e
  exact ⟨hR.cell s i hs hi, hf _⟩
theorem BInv.on {n : Nat} {w w0 wx wy : World} {F : Nat → Nat → Int} (h : BInv n w w0 wx F) (hb : Below wx.heap.size wx wy) : BInv n w w0 wy F :=
  ⟨h.own.keep fun b e => hb.block b (World.ownsRow.lt h.own b e).2, h.bl.trans (hb.mono (by have := World.ownsRow.lt h.own _ rfl; omega))⟩

set_option maxRecDepth 100000 in
set_option maxHeartbeats 2000000 in
theorem rowsBy_any (m : Mc) (a1 : Option Addr) (c1 : Nat) (a2 : Option Addr) (c2 : Nat) (a3 : Option Addr) (c3 : Nat) (C : List Int) (w : World) (R : Right m) (o1 : m.o ≤ 64) (h1 : RdL .i64 w a1 m.nx) (h2 : RdL .i64 w a2 m.out) (hc2 : m.out.length ≤ c2) (h3 : RdL .i64 w a3 C) (hl : (C.length : Int) = m.n) (hC : ∀ j, j < C.length → 0 ≤ C.getD j 0 ∧ C.getD j 0 ≤ 1024) :
    Calls Try.prog 42 #[mval m a1 c1 a2 c2, .slice a3 C.length c3] w fun e w' => ∃ v, e = .returned v ∧ OwnR w' w.heap.size v m.n.toNat (Fb m C) ∧ Below w.heap.size w w' := by
  unfold mval
  obtain ⟨w0, hw0⟩ : ∃ w0, w0 = w.alloc (.cells #[.int .i64 m.kind, .int .i64 m.k, .int .i64 m.o, .int .i64 m.n, .slice a1 m.nx.length c1, .slice a2 m.out.length c2] 24) := ⟨_, rfl⟩
  have B0 : Box w0 w.heap.size m a1 c1 a2 c2 := by rw [hw0]; exact Box.alloc w m a1 c1 a2 c2 24
  have b0 : Below w.heap.size w w0 := by rw [hw0]; exact ballo w _
  have z0 : w0.heap.size = w.heap.size + 1 := by rw [hw0]; simp
  have n0 := R.n0
  have n1 := R.n1
  have k0 := R.k0
  have k1 := R.k1
  have hpp := pp_le R
  have hnn : m.n = ((m.n.toNat : Nat) : Int) := by omega
  have HNN := hide hnn
  have HR := hide R
  have HS := hide z0
  have HL := hide hl
  clear R hnn z0 hl
  go_enter Try.func42, Try.ntmps42
  go_wp2_with (at_make; refine wplR_make rfl (.tmp 11) (.tmp 11) rfl (w.heap.size + 1) _ _ m.n.toNat rfl rfl (unhide HNN) (unhide HNN) (by omega) (by simp) ?_; intro w1 hown1 hb1; rw [← hw0] at hown1 hb1; obtain ⟨q0, q1, q2, q3, q4, q5⟩ := box_on B0 hb1 (by omega))
  rw [unhide HS] at hown1
  have HI0 := hide (BInv.mk (n := m.n.toNat) (w := w) (hown1.congr fun s i _ _ => (FbP_zero m C s i).symm) hb1)
  clear hown1 hb1 hw0 q0 q1 q2 q3 q4 q5
  go_loopw [15] (fun a wx => ∃ s : Nat, s ≤ m.n.toNat ∧ a = .int .i64 s ∧ BInv m.n.toNat w w0 wx (FbP m C s 0 0)) (fun a _ => m.n.toNat - (intOf a).toNat)
  case atStart => exact ⟨0, Nat.zero_le _, by first | rfl | simp [unhide HS], unhide HI0⟩
  case round =>
    obtain ⟨s, hs, rfl, hinv⟩ := hrel
    clear HI0
    have HI := hide hinv
    obtain ⟨p0, p1, p2, p3, p4, p5⟩ := box_on B0 hinv.bl (by omega)
    by_cases hlt : s < m.n.toNat
    rotate_left
    · have he : s = m.n.toNat := by omega
      subst he
      go_wp2
      go_ret
      exact ⟨_, rfl, (hinv.own.congr (G := Fb m C) fun t i ht _ => by unfold FbP; rw [if_pos ht]).mono (by omega), b0.trans (hinv.bl.mono (by omega))⟩
    have hlt' : (s : Int) < m.n := by omega
    have hb := b0.trans (hinv.bl.mono (Nat.le_succ _))
    clear hinv
    go_wp2_with fail
    refine (saidIn_any m a1 c1 a2 c2 s wr (unhide HR) hlt' (h2.below hb) hc2).mono ?_
    rintro e w2 ⟨aS, cS, rfl, rS, hb2⟩
    have HI2 := hide ((unhide HI).on hb2)
    have H64 := hide hpp.1
    obtain ⟨bS, oS, eS, -⟩ := (rS wr (h2.below hb)).at (i := 0) (by rw [rowO_len]; omega)
    cases eS
    have HRS := hide rS
    obtain ⟨x0, x1, x2, x3, x4, x5⟩ := box_on B0 (unhide HI2).bl (by omega)
    clear p0 p1 p2 p3 p4 p5 HI rS
    go_wp2
    go_loopw [22] (fun a wx => ∃ p : Nat, p ≤ pp m ∧ a = .int .i64 p ∧ BInv m.n.toNat w w0 wx (FbP m C s p 0)) (fun a _ => pp m - (intOf a).toNat)
    case atStart => exact ⟨0, Nat.zero_le _, rfl, unhide HI2⟩
    case round =>
      obtain ⟨p, hp, rfl, hinv⟩ := hrel
      clear HI2 x0 x1 x2 x3 x4 x5
      have HI := hide hinv
      obtain ⟨p0, p1, p2, p3, p4, p5⟩ := box_on B0 hinv.bl (by omega)
      have hb' := b0.trans (hinv.bl.mono (Nat.le_succ _))
      by_cases hlp : p < pp m
      · have hlp' : (p : Int) < ((pp m : Nat) : Int) := by omega
        obtain ⟨b9, o9, e9, hcs⟩ := (unhide HRS wr (h2.below hb')).at (i := p) (by rw [rowO_len]; exact hlp)
        cases e9
        have hcp := hcs p (by rw [rowO_len]; exact hlp)
        obtain ⟨kc, kf⟩ := hinv.cell hlt (i := p) (by omega)
        rw [rc_lo (by omega)] at kc
        have HX := hide (FbP_said (m := m) (C := C) (t := s) hlp (unhide H64))
        have hx : 0 ≤ (rowO m s (pp m)).getD p 0 ∧ (rowO m s (pp m)).getD p 0 < m.o := by
          obtain ⟨Q, hQ, hQ2, hQl, hQ3⟩ := said_of (unhide HR) (s := (s : Int)) (by omega) hlt'
          rw [rowO_get m s hlp, hQ]
          have := (unhide HR).so (Q + p) (by omega)
          rwa [show ((Q : Int) + (p : Int)).toNat = Q + p by omega]
        have hp64 : p < 64 := by omega
        generalize (rowO m s (pp m)).getD p 0 = x at *
        clear hinv hcs
        go_wp2
        go_roundw
        case rel => exact ⟨p + 1, by omega, by go_num, (unhide HI).store (s := s) (i := p) (by omega) (rc_lo hp64 x).symm (unhide HX)⟩
        case measure => simp [intOf]; omega
      · have he : p = pp m := by omega
        subst he
        clear hinv
        go_wp2
        go_loopw [38] (fun a wx => ∃ q : Nat, (q : Int) ≤ m.k ∧ a = .int .i64 q ∧ BInv m.n.toNat w w0 wx (FbP m C s (pp m) q)) (fun a _ => m.k.toNat - (intOf a).toNat)
        case atStart => exact ⟨0, by omega, rfl, unhide HI⟩
        case round =>
          obtain ⟨q, hq, rfl, hinv⟩ := hrel
          clear HI p0 p1 p2 p3 p4 p5 hb'
          have HI := hide hinv
          obtain ⟨p0, p1, p2, p3, p4, p5⟩ := box_on B0 hinv.bl (by omega)
          have hb' := b0.trans (hinv.bl.mono (Nat.le_succ _))
          by_cases hlq : (q : Int) < m.k
          · obtain ⟨P, hP, hPl, t0, t1, t2⟩ := way_of (unhide HR) (s := (s : Int)) (by omega) hlt' (x := (q : Int)) (by omega) hlq
            obtain ⟨b4, off4, rfl, hn'⟩ := (h1.below hb').at hPl
            have hnP := hn' P hPl
            have hy := (unhide HR).st P hPl
            have eN : nxt m s q = m.nx.getD P 0 := by unfold nxt; rw [hP]; simp
            obtain ⟨t, ht⟩ := Int.eq_ofNat_of_zero_le hy.1
            rw [ht] at hnP hy eN
            have htC : t < C.length := by have := unhide HL; omega
            have htC' : (t : Int) < (C.length : Int) := by omega
            obtain ⟨b5, off5, rfl, hc'⟩ := (h3.below hb').at htC
            have hct := hc' t htC
            have hPl' : (P : Int) < (m.nx.length : Int) := by omega
            have hxC := hC t htC
            obtain ⟨kc, kf⟩ := hinv.cell hlt (i := 64 + q) (by omega)
            rw [rc_hi (by omega), ← Nat.add_assoc] at kc
            rw [← Nat.add_assoc] at kf
            have HX : Hid (∀ t' i, setR s (64 + q) (C.getD t 0) (FbP m C s (pp m) q) t' i = FbP m C s (pp m) (q + 1) t' i) := by
              have := FbP_next (m := m) (C := C) (t := s) (p := pp m) hlq
              rw [eN] at this
              exact this
            have hq64 : q < 64 := by omega
            generalize C.getD t 0 = x at *
            have wr1 : IntKind.i64.wrap ((s : Int) * m.k) = s * m.k := by rw [IntKind.wrap_i64]; omega
            have wr2 : IntKind.i64.wrap (P : Int) = P := by rw [IntKind.wrap_i64]; omega
            clear hinv hn' hc' eN ht
            go_wp2
            go_region
            all_goals
              go_wp2
              go_roundw
              case rel =>
                have h9 := (unhide HI).drew.store (s := s) (i := 64 + q) (by omega) (rc_hi (by omega) x).symm (unhide HX)
                rw [← Nat.add_assoc] at h9
                exact ⟨q + 1, by omega, by go_num, h9⟩
              case measure => simp [intOf]; omega
          · have HQ : Hid ((q : Int) = m.k) := by show _ = _; omega
            clear hinv
            go_wp2
            go_roundw
            case rel => exact ⟨s + 1, by omega, by go_num, ⟨(unhide HI).own.congr fun t i _ _ => FbP_full (unhide HQ) t i, (unhide HI).bl⟩⟩
            case measure => simp [intOf]; omega

end Go.Proofs.Ytoiogggibfmncaa

/-
  Rows that are the same, and states that are alike up to a length: in plain words.
-/
namespace Go.Proofs.Ytoiogggibfmncaa
open Go.RowKit

/-- What is said, and steps that lead to states that are alike up to n: alike up to n. -/
theorem alk_more {m : Mc} : ∀ (n : Nat) {s t : Int}, nowB m s t = true → (∀ x : Nat, (x : Int) < m.k → alk m n (nxt m s x) (nxt m t x) = true) → alk m n s t = true
  | 0, s, t, h, _ => by unfold alk; split; { exact h }; rfl
  | n + 1, s, t, h, hx => alk_succ.2 ⟨alk_more n h fun x h1 => alk_less (hx x h1), fun _ => h, fun x h1 => alk_less (hx x h1)⟩
theorem alk_rows {m : Mc} (R : Right m) (n : Nat) {s t : Int} : alk m (n + 1) s t = true ↔ nowB m s t = true ∧ ∀ x : Nat, (x : Int) < m.k → alk m n (nxt m s x) (nxt m t x) = true := by
  constructor
  · intro h
    obtain ⟨h1, h2, h3⟩ := alk_succ.1 h
    refine ⟨?_, h3⟩
    rcases R.kd with hk | hk
    · have h0 := alk_mono (Nat.zero_le n) h1
      unfold alk at h0
      rw [if_pos hk] at h0
      exact h0
    · exact h2 hk
  · rintro ⟨h1, h2⟩
    exact alk_succ.2 ⟨alk_more n h1 h2, fun _ => h1, h2⟩
theorem now_iff {m : Mc} {s t : Int} : nowB m s t = true ↔ ∀ i, i < pp m → (rowO m s (pp m)).getD i 0 = (rowO m t (pp m)).getD i 0 := by
  unfold nowB
  constructor
  · intro h i _; rw [of_decide_eq_true h]
  · intro h
    refine decide_eq_true ?_
    refine List.ext_getElem? fun i => ?_
    by_cases c : i < pp m
    · have h1 := h i c
      simp only [List.getD] at h1
      rw [List.getElem?_eq_getElem (by rw [rowO_len]; exact c), List.getElem?_eq_getElem (by rw [rowO_len]; exact c)] at h1 ⊢
      simpa using h1
    · rw [List.getElem?_eq_none (by rw [rowO_len]; omega), List.getElem?_eq_none (by rw [rowO_len]; omega)]
theorem eqR_first {m : Mc} (s t : Nat) : eqR (F0 m) s t = alkR m 0 s t := by
  apply Bool.eq_iff_iff.2
  rw [eqR_iff]
  unfold alkR alk
  by_cases hk : m.kind = 1
  · have hp : pp m = 1 := by unfold pp; rw [if_pos hk]
    rw [if_pos hk, now_iff, hp]
    have e : ∀ s : Nat, (rowO m (s : Int) 1).getD 0 0 = m.out.getD s 0 := fun s => by
      have h1 := rowO_get m (s : Int) (n := 1) (x := 0) (by omega)
      rw [hp, show ((s : Int) * ((1 : Nat) : Int) + ((0 : Nat) : Int)).toNat = s by omega] at h1
      exact h1
    constructor
    · intro h i hi
      obtain rfl : i = 0 := by omega
      have := h 0 (by omega)
      unfold F0 at this
      rw [if_pos ⟨hk, rfl⟩, if_pos ⟨hk, rfl⟩] at this
      rw [e, e, this]
    · intro h i _
      unfold F0
      by_cases c : i = 0
      · have := h 0 (by omega)
        rw [e, e] at this
        rw [if_pos ⟨hk, c⟩, if_pos ⟨hk, c⟩, this]
      · rw [if_neg (fun h => c h.2), if_neg (fun h => c h.2)]
  · rw [if_neg hk]
    refine ⟨fun _ => rfl, fun _ i _ => ?_⟩
    unfold F0
    rw [if_neg (fun h => hk h.1), if_neg (fun h => hk h.1)]
theorem aft_len (m : Mc) (n : Nat) : (aftL m n).length = m.n.toNat := clL_len _ _
theorem aft_at {m : Mc} (n : Nat) {s : Int} (s0 : 0 ≤ s) (s1 : s < m.n) : (aftL m n).getD s.toNat 0 = cl (alkR m n) s.toNat := cl_at _ (by omega)
theorem aft_iff {m : Mc} (n : Nat) {s t : Int} (s0 : 0 ≤ s) (s1 : s < m.n) (t0 : 0 ≤ t) (t1 : t < m.n) : (aftL m n).getD s.toNat 0 = (aftL m n).getD t.toNat 0 ↔ alk m n s t = true := by
  rw [aft_at n s0 s1, aft_at n t0 t1, cl_iff (alk_eqv m n m.n.toNat) (by omega) (by omega)]
  unfold alkR
  rw [Int.toNat_of_nonneg s0, Int.toNat_of_nonneg t0]
theorem aft_range {m : Mc} (R : Right m) (n : Nat) {j : Nat} (hj : j < (aftL m n).length) : 0 ≤ (aftL m n).getD j 0 ∧ (aftL m n).getD j 0 ≤ 1024 := by
  rw [aft_len] at hj
  have h1 := cl_range (alk_eqv m n m.n.toNat) hj
  have h2 := nc_le (alkR m n) m.n.toNat
  have h3 : (aftL m n).getD j 0 = cl (alkR m n) j := cl_at _ hj
  have := R.n1
  rw [h3]; omega
theorem eqR_next {m : Mc} (R : Right m) (n : Nat) {s t : Nat} (hs : s < m.n.toNat) (ht : t < m.n.toNat) : eqR (Fb m (aftL m n)) s t = alkR m (n + 1) s t := by
  apply Bool.eq_iff_iff.2
  rw [eqR_iff]
  unfold alkR
  have k1 := R.k1
  have hpp := (pp_le R).1
  rw [alk_rows R, now_iff]
  have hn : ∀ (s : Nat) (x : Nat), s < m.n.toNat → (x : Int) < m.k → Fb m (aftL m n) s (64 + x) = (aftL m n).getD (nxt m s (x : Int)).toNat 0 := fun s x _ hx => by
    unfold Fb
    rw [if_neg (by omega), show 64 + x - 64 = x by omega, if_pos hx]
  have hsay : ∀ (s : Nat) (i : Nat), i < pp m → Fb m (aftL m n) s i = (rowO m s (pp m)).getD i 0 := fun s i hi => by
    unfold Fb; rw [if_pos (by omega), if_pos hi]
  have hr : ∀ (s : Nat) (x : Nat), s < m.n.toNat → (x : Int) < m.k → 0 ≤ nxt m s (x : Int) ∧ nxt m s (x : Int) < m.n := fun s x hs hx => nxt_range R (by omega) (by omega) hx
  constructor
  · intro h
    refine ⟨fun i hi => by rw [← hsay s i hi, ← hsay t i hi]; exact h i (by omega), fun x hx => ?_⟩
    have h1 := h (64 + x) (by omega)
    rw [hn s x hs hx, hn t x ht hx] at h1
    have a := hr s x hs hx
    have b := hr t x ht hx
    exact (aft_iff n a.1 a.2 b.1 b.2).1 h1
  · rintro ⟨h1, h2⟩ i hi
    by_cases c : i < 64
    · by_cases d : i < pp m
      · rw [hsay s i d, hsay t i d, h1 i d]
      · unfold Fb; rw [if_pos c, if_neg d, if_pos c, if_neg d]
    · by_cases d : ((i - 64 : Nat) : Int) < m.k
      · have e : i = 64 + (i - 64) := by omega
        rw [e, hn s _ hs d, hn t _ ht d]
        have a := hr s _ hs d
        have b := hr t _ ht d
        exact (aft_iff n a.1 a.2 b.1 b.2).2 (h2 _ d)
      · unfold Fb; rw [if_neg c, if_neg d, if_neg c, if_neg d]
theorem cl_first (m : Mc) : clL (eqR (F0 m)) m.n.toNat = aftL m 0 := (cls_congr fun s t _ _ => eqR_first s t).2.1
theorem cl_next {m : Mc} (R : Right m) (n : Nat) : clL (eqR (Fb m (aftL m n))) m.n.toNat = aftL m (n + 1) := (cls_congr fun _ _ hs ht => eqR_next R n hs ht).2.1
theorem said_rng {m : Mc} (R : Right m) {s : Nat} (hs : s < m.n.toNat) {i : Nat} (hi : i < pp m) : 0 ≤ (rowO m s (pp m)).getD i 0 ∧ (rowO m s (pp m)).getD i 0 < m.o := by
  obtain ⟨Q, hQ, hQ2, hQl, hQ3⟩ := said_of R (s := (s : Int)) (by omega) (by omega)
  rw [rowO_get m s hi, hQ]
  have := R.so (Q + i) (by omega)
  rwa [show ((Q : Int) + (i : Int)).toNat = Q + i by omega]
theorem fit_first {m : Mc} (R : Right m) (o1 : m.o ≤ 64) {s : Nat} (hs : s < m.n.toNat) : FitR (F0 m s) := fun i hi => by
  unfold F0
  by_cases c : m.kind = 1 ∧ i = 0
  · rw [if_pos c]
    have := R.outD c.1
    have := R.so s (by omega)
    rw [if_pos (by omega)]; omega
  · rw [if_neg c]
    split <;> omega
theorem fit_next {m : Mc} (R : Right m) (o1 : m.o ≤ 64) (n : Nat) {s : Nat} (hs : s < m.n.toNat) : FitR (Fb m (aftL m n) s) := fun i hi => by
  unfold Fb
  by_cases c : i < 64
  · rw [if_pos c, if_pos c]
    by_cases d : i < pp m
    · rw [if_pos d]
      have := said_rng R hs d
      omega
    · rw [if_neg d]; omega
  · rw [if_neg c, if_neg c]
    by_cases d : ((i - 64 : Nat) : Int) < m.k
    · rw [if_pos d]
      have a := nxt_range R (s := (s : Int)) (by omega) (by omega) d
      have := aft_range R n (j := (nxt m s ((i - 64 : Nat) : Int)).toNat) (by rw [aft_len]; omega)
      omega
    · rw [if_neg d]; omega
/-- A round that splits nothing tells the same classes. -/
theorem aft_still {m : Mc} (n : Nat) : aftL m (n + 1) = aftL m n ↔ Still m n := by
  constructor
  · intro e s t s0 s1 t0 t1 h
    have h1 := (aft_iff n s0 s1 t0 t1).2 h
    rw [← e] at h1
    exact (aft_iff (n + 1) s0 s1 t0 t1).1 h1
  · intro h
    refine (cls_congr fun s t hs ht => ?_).2.1
    apply Bool.eq_iff_iff.2
    exact ⟨fun e => alk_less e, fun e => h s t (by omega) (by omega) (by omega) (by omega) e⟩
theorem rd_is {m : Mc} (n0 : 1 ≤ m.n) {r : Nat} (h : Still m r) (hl : ∀ j, j < r → ¬ Still m j) : rdV m = r := by
  obtain ⟨h1, h2, _⟩ := rdV_spec n0
  rcases Nat.lt_trichotomy (rdV m) r with c | c | c
  · exact absurd h1 (hl _ c)
  · exact c
  · exact absurd h (h2 _ c)
theorem rd_le {m : Mc} (n0 : 1 ≤ m.n) {r : Nat} (hl : ∀ j, j < r → ¬ Still m j) : r ≤ rdV m ∧ (rdV m : Int) + 1 ≤ m.n := by
  obtain ⟨h1, _, h3⟩ := rdV_spec n0
  refine ⟨?_, by omega⟩
  rcases Nat.lt_or_ge (rdV m) r with c | c
  · exact absurd h1 (hl _ c)
  · exact c

end Go.Proofs.Ytoiogggibfmncaa
