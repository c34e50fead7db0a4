/-
  The law WordParts returns true in every world, for any three lists, and turns nothing that was there.
-/
import Derived.Test.YtpbceijlpkggpaaLive
import Derived.Test.YtpbceijlpkggpaaArg
import Derived.Test.YtpbceijlpkggpaaRJoin
import Derived.Test.YtpbceijlpkggpaaRParts
import Derived.Test.YtpbceijlpkggpaaLsts
import Derived.Test.YtpbceijlpkggpaaApartW
namespace Go.Proofs.Ytpbceijlpkggpaa
open Go.RowKit

/-- All the lists: the beginnings, the ends, the join. -/
def allV (n : Nat) (vsp vss : Nat → Value) (vj : Value) : Nat → Value := joinV (n + 1 + (n + 1)) (joinV (n + 1) vsp vss) fun _ => vj
def allN (n nj i : Nat) : Nat := if i < n + 1 then i else if i < n + 1 + (n + 1) then i - (n + 1) else nj
def allF (n : Nat) (fp fz : Nat → Nat → Int) (fj : Nat → Int) (i : Nat) : Nat → Int := if i < n + 1 then fp i else if i < n + 1 + (n + 1) then fz (i - (n + 1)) else fj

theorem all_cases {n i : Nat} (hi : i < n + 1 + (n + 1) + 1) (vsp vss : Nat → Value) (vj : Value) (nj : Nat) (fp fz : Nat → Nat → Int) (fj : Nat → Int) :
    (i < n + 1 ∧ allV n vsp vss vj i = vsp i ∧ allN n nj i = i ∧ allF n fp fz fj i = fp i) ∨
    (∃ k, k < n + 1 ∧ i = n + 1 + k ∧ allV n vsp vss vj i = vss k ∧ allN n nj i = k ∧ allF n fp fz fj i = fz k) ∨
    (i = n + 1 + (n + 1) ∧ allV n vsp vss vj i = vj ∧ allN n nj i = nj ∧ allF n fp fz fj i = fj) := by
  unfold allV allN allF
  by_cases h1 : i < n + 1
  · refine .inl ⟨h1, ?_, ?_, ?_⟩
    · rw [joinV_lt (by omega), joinV_lt h1]
    · rw [if_pos h1]
    · rw [if_pos h1]
  · by_cases h2 : i < n + 1 + (n + 1)
    · refine .inr (.inl ⟨i - (n + 1), by omega, by omega, ?_, ?_, ?_⟩)
      · rw [joinV_lt h2, joinV_ge (by omega)]
      · rw [if_neg h1, if_pos h2]
      · rw [if_neg h1, if_pos h2]
    · refine .inr (.inr ⟨by omega, ?_, ?_, ?_⟩)
      · rw [joinV_ge (by omega)]
      · rw [if_neg h1, if_neg h2]
      · rw [if_neg h1, if_neg h2]

theorem parts_fam {w13 w14 w15 : World} {B s3 s4 s5 n nj : Nat} {vsp vss : Nat → Value} {vj vp v14 v15 : Value} {fp fz : Nat → Nat → Int} {fj : Nat → Int} {o : Obj}
    (Fp : Fam w13 B (n + 1) vsp (fun i => i) fp) (rp : ∀ i, i < n + 1 → ∀ b, (vsp i).ownBlock = some b → s3 ≤ b ∧ b < s4)
    (Fs : Fam w13 B (n + 1) vss (fun i => i) fz) (rs : ∀ i, i < n + 1 → ∀ b, (vss i).ownBlock = some b → s4 ≤ b ∧ b < s5)
    (hj : Own w13 B vj nj fj) (rj : ∀ b, vj.ownBlock = some b → b < s3)
    (rvp : ∀ b, vp.ownBlock = some b → s3 ≤ b ∧ b < s4) (ap : ∀ b, vp.ownBlock = some b → ∀ i, i < n + 1 → (vsp i).ownBlock ≠ some b)
    (h34 : s3 ≤ s4) (h45 : s4 ≤ s5) (h5 : s5 ≤ w13.heap.size)
    (g14 : w13.grownBy w14 vp.ownBlock) (b14 : ∀ b, v14.ownBlock = some b → vp.ownBlock = some b ∨ w13.heap.size ≤ b)
    (g15 : (w14.alloc o).grownBy w15 v14.ownBlock) (b15 : ∀ b, v15.ownBlock = some b → v14.ownBlock = some b ∨ (w14.alloc o).heap.size ≤ b) :
    Fam w15 B (n + 1 + (n + 1) + 1) (allV n vsp vss vj) (allN n nj) (allF n fp fz fj) ∧ ∀ b, v15.ownBlock = some b → ∀ i, i < n + 1 + (n + 1) + 1 → (allV n vsp vss vj i).ownBlock ≠ some b := by
  have hsz := g14.size
  have keep : ∀ b, b < s5 → vp.ownBlock ≠ some b → w15.heap[b]? = w13.heap[b]? := fun b h1 h2 => by
    rw [g15.block b (by simp; omega) fun e => by
      rcases b14 b e.symm with h3 | h3
      · exact h2 h3
      · omega, Below.heap_alloc _ _ _ (by omega), g14.block b (by omega) (Ne.symm h2)]
  have good : ∀ i, i < n + 1 + (n + 1) + 1 → ∀ b, (allV n vsp vss vj i).ownBlock = some b → b < s5 ∧ vp.ownBlock ≠ some b := fun i hi b e => by
    rcases all_cases hi vsp vss vj nj fp fz fj with ⟨h1, h2, _, _⟩ | ⟨k, h1, _, h2, _, _⟩ | ⟨_, h2, _, _⟩
    · rw [h2] at e
      have := rp i h1 b e
      exact ⟨by omega, fun e2 => ap b e2 i h1 e⟩
    · rw [h2] at e
      have := rs k h1 b e
      exact ⟨by omega, fun e2 => by have := rvp b e2; omega⟩
    · rw [h2] at e
      have := rj b e
      exact ⟨by omega, fun e2 => by have := rvp b e2; omega⟩
  refine ⟨⟨fun i hi => ?_, fun i j hi hj2 hne b e1 e2 => ?_⟩, fun b e i hi e2 => ?_⟩
  · have hk := good i hi
    rcases all_cases hi vsp vss vj nj fp fz fj with ⟨h1, h2, h3, h4⟩ | ⟨k, h1, _, h2, h3, h4⟩ | ⟨_, h2, h3, h4⟩
    · rw [h2] at hk ⊢
      rw [h3, h4]
      exact (Fp.own i h1).keep fun b e => keep b (hk b e).1 (hk b e).2
    · rw [h2] at hk ⊢
      rw [h3, h4]
      exact (Fs.own k h1).keep fun b e => keep b (hk b e).1 (hk b e).2
    · rw [h2] at hk ⊢
      rw [h3, h4]
      exact hj.keep fun b e => keep b (hk b e).1 (hk b e).2
  · rcases all_cases hi vsp vss vj nj fp fz fj with ⟨h1, h2, _, _⟩ | ⟨k, h1, h0, h2, _, _⟩ | ⟨h0, h2, _, _⟩ <;>
      rcases all_cases hj2 vsp vss vj nj fp fz fj with ⟨g1, g2, _, _⟩ | ⟨l, g1, g0, g2, _, _⟩ | ⟨g0, g2, _, _⟩ <;> rw [h2] at e1 <;> rw [g2] at e2
    · exact Fp.apart i j h1 g1 hne b e1 e2
    · have := rp i h1 b e1; have := rs l g1 b e2; omega
    · have := rp i h1 b e1; have := rj b e2; omega
    · have := rs k h1 b e1; have := rp j g1 b e2; omega
    · exact Fs.apart k l h1 g1 (by omega) b e1 e2
    · have := rs k h1 b e1; have := rj b e2; omega
    · have := rj b e1; have := rp j g1 b e2; omega
    · have := rj b e1; have := rs l g1 b e2; omega
    · omega
  · have hk := good i hi b e2
    rcases b15 b e with h1 | h1
    · rcases b14 b h1 with h2 | h2
      · exact hk.2 h2
      · omega
    · simp at h1; omega

theorem Lent.belowB {w w' : World} {g n cap B : Nat} {f : Nat → Int} (h : Lent w g n cap f) (hg : g < B) (hb : Below B w w') : Lent w' g n cap f :=
  ⟨h.room, h.le, fun i hi => by rw [hb.cell (by exact hg)]; exact h.cell i hi, by rw [hb.cell (by exact hg)]; exact h.m1, by rw [hb.cell (by exact hg)]; exact h.m2⟩

def l3 {α : Type} (x y z : α) (i : Nat) : α := if i = 0 then x else if i = 1 then y else z
theorem cat3 (n0 n1 n2 : Nat) : catN (l3 n0 n1 n2) 3 = n0 + n1 + n2 := by simp [catN, l3]
theorem catF3 (n0 n1 n2 : Nat) (f0 f1 f2 : Nat → Int) (i : Nat) : catF (l3 n0 n1 n2) (l3 f0 f1 f2) 3 i = joinF (n0 + n1) (joinF n0 f0 f1) f2 i := by
  have c1 : catN (l3 n0 n1 n2) 1 = n0 := by simp [catN, l3]
  have c2 : catN (l3 n0 n1 n2) 2 = n0 + n1 := by simp [catN, l3]
  show joinF (catN (l3 n0 n1 n2) 2) (joinF (catN (l3 n0 n1 n2) 1) (joinF 0 (fun _ => 0) f0) f1) f2 i = _
  rw [c1, c2]
  by_cases h1 : i < n0 + n1
  · rw [joinF_lt h1, joinF_lt h1]
    by_cases h2 : i < n0
    · rw [joinF_lt h2, joinF_lt h2, joinF_ge (Nat.zero_le _)]; rfl
    · rw [joinF_ge (by omega), joinF_ge (by omega)]
  · rw [joinF_ge (by omega), joinF_ge (by omega)]

set_option maxHeartbeats 1000000 in
set_option maxRecDepth 100000 in
theorem wordParts_walk (a0 : Option Addr) (n0 c0 : Nat) (f0 : Nat → Int) (a1 : Option Addr) (n1 c1 : Nat) (f1 : Nat → Int) (a2 : Option Addr) (n2 c2 : Nat) (f2 : Nat → Int) (w : World) (h0 : Arg w a0 n0 c0 f0) (h1 : Arg w a1 n1 c1 f1) (h2 : Arg w a2 n2 c2 f2) :
    Calls Try.prog 5 #[.slice a0 n0 c0, .slice a1 n1 c1, .slice a2 n2 c2] w fun e w' => e = .returned (.bool true) ∧ Below w.heap.size w w' := by
  have hm0 := h0.max
  have hm1 := h1.max
  have hm2 := h2.max
  unfold maxLen at hm0 hm1 hm2
  by_cases l0 : 300 < n0
  · go_enter Try.func5, Try.ntmps5
    go_wp2_with (go_at_call 17; refine (live_any _).mono ?_; rintro e wl ⟨rfl, hbl⟩)
    go_ret
    exact ⟨rfl, hbl⟩
  by_cases l1 : 300 < n1
  · go_enter Try.func5, Try.ntmps5
    go_wp2_with (go_at_call 17; refine (live_any _).mono ?_; rintro e wl ⟨rfl, hbl⟩)
    go_ret
    exact ⟨rfl, hbl⟩
  by_cases l2' : 300 < n2
  · go_enter Try.func5, Try.ntmps5
    go_wp2_with (go_at_call 17; refine (live_any _).mono ?_; rintro e wl ⟨rfl, hbl⟩)
    go_ret
    exact ⟨rfl, hbl⟩
  have s0 : n0 ≤ 300 := by omega
  have s1 : n1 ≤ 300 := by omega
  have s2 : n2 ≤ 300 := by omega
  clear l0 l1 l2' hm0 hm1 hm2
  go_enter Try.func5, Try.ntmps5
  go_wp2_with fail
  refine (lent_any a0 n0 c0 f0 w h0.rd h0.nil h0.bytes).mono ?_
  rintro e w1 ⟨g, cap, rfl, L, hg, B1⟩
  have hgl := L.lt
  go_wp2_with fail
  refine (join_any (some ⟨w1.heap.size, 0, none⟩) 3 3 (l3 (.slice (some ⟨g, 0, none⟩) n0 cap) (.slice a1 n1 c1) (.slice a2 n2 c2)) (l3 n0 n1 n2) (l3 cap c1 c2) (l3 (some ⟨g, 0, none⟩) a1 a2) (l3 f0 f1 f2) _ (RdV.lit w1 3 _ _ (by decide) rfl) (by omega) ?_).mono ?_
  · intro i hi
    have hb := (Below.refl w1.heap.size w1).alloc (Nat.le_refl _) (.cells #[.slice (some ⟨g, 0, none⟩) n0 cap, .slice a1 n1 c1, .slice a2 n2 c2] 22)
    match i, hi with
    | 0, _ => exact ⟨rfl, L.rd.below hb, (fun h => by cases h), by show n0 ≤ _; omega⟩
    | 1, _ => exact ⟨rfl, (h1.rd.below B1).below hb, h1.nil, by show n1 ≤ _; omega⟩
    | 2, _ => exact ⟨rfl, (h2.rd.below B1).below hb, h2.nil, by show n2 ≤ _; omega⟩
  rw [cat3]
  rintro e w3 ⟨vj, rfl, hj0, hbj⟩
  have hj := (hj0.congr fun i _ => catF3 n0 n1 n2 f0 f1 f2 i).base (B' := w1.heap.size) (by simp)
  have hC3 : Below w1.heap.size w1 w3 := ((Below.refl _ _).alloc (Nat.le_refl _) _).trans (hbj.mono (by simp))
  have B3 := bstep B1 hC3
  have L3 := L.below hC3
  have sz3 := hC3.size
  obtain ⟨aj, cj, rfl, _, _, _, _⟩ := hj.shape
  clear hj0 hbj hC3 L
  go_wp2_with fail
  refine (prefixes_any _ n0 cap f0 w3 L3.rd (by have := L3.room; omega) (by omega)).mono ?_
  intro e w4 hp
  obtain ⟨vp, vsp, rfl, Op, Fp, Ap, hb4⟩ := hp
  have B4 := bstep B3 hb4
  have L4 := L3.below hb4
  have hj4 := hj.below hb4
  have rj : ∀ b, (Value.slice aj (n0 + n1 + n2) cj).ownBlock = some b → b < w3.heap.size := fun b e => (hj.lt e).2
  have RVP : ∀ b, vp.ownBlock = some b → w3.heap.size ≤ b ∧ b < w4.heap.size := fun b e => Op.lt e
  have RP : ∀ i, i < n0 + 1 → ∀ b, (vsp i).ownBlock = some b → w3.heap.size ≤ b ∧ b < w4.heap.size := fun i hi b e => (Fp.own i hi).lt e
  have sz4 := hb4.size
  obtain ⟨gp, cp, rfl, _, _, _, _, _, _⟩ := Op.pos (by omega)
  clear hj L3 hb4
  go_wp2_with fail
  refine (suffixes_any _ n0 cap f0 w4 L4.rd (by have := L4.room; omega) (by omega)).mono ?_
  intro e w5 hp
  obtain ⟨vz, vss, rfl, Os, Fs, As, hb5⟩ := hp
  have B5 := bstep B4 hb5
  have L5 := L4.below hb5
  have hj5 := hj4.below hb5
  have Op5 := Op.below hb5
  have Fp5 := Fp.below hb5
  have RS : ∀ i, i < n0 + 1 → ∀ b, (vss i).ownBlock = some b → w4.heap.size ≤ b ∧ b < w5.heap.size := fun i hi b e => (Fs.own i hi).lt e
  have sz5 := hb5.size
  obtain ⟨gs, cs, rfl, _, _, _, _, _, _⟩ := Os.pos (by omega)
  have HRJ := hide rj
  have HRVP := hide RVP
  have HRP := hide RP
  have HRS := hide RS
  have HAP := hide Ap
  clear hj4 L4 hb5 B3 B4 Op Fp As rj RVP RP RS Ap
  go_wp2_with fail
  refine (rjoin_any a0 n0 c0 f0 a1 n1 c1 f1 w5 (h0.rd.below B5) h0.nil (h1.rd.below B5) h1.nil (by omega)).mono ?_
  rintro e w6 ⟨vx, rfl, hox, C6⟩
  have B6 := bstep B5 C6
  obtain ⟨ax, cx, rfl, hnilx, _, Rx, _⟩ := hox.shape
  clear hox
  go_wp2_with fail
  refine (rjoin_any ax (n0 + n1) cx _ a2 n2 c2 f2 w6 Rx hnilx (h2.rd.below B6) h2.nil (by omega)).mono ?_
  rintro e w7 ⟨vy, rfl, hoy, hb7⟩
  have C7 := bstep C6 hb7
  obtain ⟨ay, cy, rfl, hnily, _, Ry, _⟩ := hoy.shape
  have hj7 := hj5.below C7
  obtain ⟨aj', cj', ej, _, _, Rj, _⟩ := hj7.shape
  cases ej
  clear hoy hb7 Rx C6 B6 hnilx hnily
  go_wp2_with fail
  refine (same_any aj ay _ cj _ cy _ _ w7 Rj Ry (by unfold maxLen; omega) (by unfold maxLen; omega)).mono ?_
  rw [samB_yes (fun _ _ => rfl)]
  rintro e w8 ⟨rfl, hb8⟩
  have C8 := bstep C7 hb8
  have B8 := bstep B5 C8
  clear hb8 C7 Rj Ry hj7
  go_wp2_with fail
  refine (rprefixes_any a0 n0 c0 f0 w8 (h0.rd.below B8) h0.nil h0.le (by omega)).mono ?_
  intro e w9 hp
  obtain ⟨vr, vsr, rfl, Or, Fr, hb9⟩ := hp
  have C9 := bstep C8 hb9
  obtain ⟨ar, cr, rfl, _, _, Rr⟩ := Or.shape
  obtain ⟨ap', cp', ep, _, _, Rp⟩ := (Op5.below C9).shape
  cases ep
  have HV9 : Hid (∀ i, i < n0 + 1 → ∃ ai ci bi di, vsp i = .slice ai i ci ∧ Rd w9 ai i f0 ∧ vsr i = .slice bi i di ∧ Rd w9 bi i f0 ∧ i ≤ maxLen) := fun i hi => by
    obtain ⟨ai, ci, e1, _, _, r1, _⟩ := ((Fp5.below C9).own i hi).shape
    obtain ⟨bi, di, e2, _, _, r2, _⟩ := (Fr.own i hi).shape
    exact ⟨ai, ci, bi, di, e1, r1, e2, r2, by unfold maxLen; omega⟩
  clear Or Fr hb9 C8 B8
  go_wp2_with fail
  refine (lists_any _ ar (n0 + 1) cp cr vsp vsr (fun i => i) (fun _ => f0) w9 Rp Rr (by unfold maxLen; omega) (unhide HV9)).mono ?_
  rintro e w10 ⟨rfl, hb10⟩
  have C10 := bstep C9 hb10
  have B10 := bstep B5 C10
  clear hb10 C9 Rr Rp HV9
  go_wp2_with fail
  refine (rsuffixes_any a0 n0 c0 f0 w10 (h0.rd.below B10) h0.nil h0.le (by omega)).mono ?_
  intro e w11 hp
  obtain ⟨vq, vsq, rfl, Oq, Fq, hb11⟩ := hp
  have C11 := bstep C10 hb11
  obtain ⟨aq, cq, rfl, _, _, Rq⟩ := Oq.shape
  obtain ⟨as', cs', es, _, _, Rs⟩ := (Os.below C11).shape
  cases es
  have HV11 : Hid (∀ i, i < n0 + 1 → ∃ ai ci bi di, vss i = .slice ai i ci ∧ Rd w11 ai i (fun j => f0 (n0 - i + j)) ∧ vsq i = .slice bi i di ∧ Rd w11 bi i (fun j => f0 (n0 - i + j)) ∧ i ≤ maxLen) := fun i hi => by
    obtain ⟨ai, ci, e1, _, _, r1, _⟩ := ((Fs.below C11).own i hi).shape
    obtain ⟨bi, di, e2, _, _, r2, _⟩ := (Fq.own i hi).shape
    exact ⟨ai, ci, bi, di, e1, r1, e2, r2, by unfold maxLen; omega⟩
  clear Oq Fq hb11 C10 B10
  go_wp2_with fail
  refine (lists_any _ aq (n0 + 1) cs cq vss vsq (fun i => i) (fun i j => f0 (n0 - i + j)) w11 Rs Rq (by unfold maxLen; omega) (unhide HV11)).mono ?_
  rintro e w12 ⟨rfl, hb12⟩
  have C12 := bstep C11 hb12
  clear hb12 C11 Rq Rs HV11
  go_wp2_with fail
  refine (join_any none 0 0 (fun _ => .slice none 0 0) (fun _ => 0) (fun _ => 0) (fun _ => none) (fun _ _ => 0) w12 (.inl rfl) (by omega) (fun i hi => by omega)).mono ?_
  rintro e w13 ⟨vz, rfl, hz, hb13⟩
  have C13 := bstep C12 hb13
  obtain ⟨az, cz, ez, _, _, _, _⟩ := (show Own w13 _ vz 0 _ from hz).shape
  subst ez
  clear hz hb13 C12
  have B13 := bstep B5 C13
  have L13 := L5.below C13
  have sz13 := C13.size
  have Op13 := (Op5.below C13).base (B' := w1.heap.size) (by omega)
  have Fp13 := Fp5.below C13
  have Os13 := Os.below C13
  have Fs13 := Fs.below C13
  have hj13 := hj5.below C13
  obtain ⟨gs', cs', es, _, _, _, _, hcs, _⟩ := Os13.pos (by omega)
  cases es
  have Rs13 : RdV w13 (some ⟨gs, 0, none⟩) (n0 + 1) vss := .inr ⟨gs, 0, rfl, fun i hi => by rw [Nat.zero_add]; exact hcs i hi⟩
  clear hcs C13 Op5 Fp5 Os Fs hj5 L5 B5
  go_wp2_with (first | (at_builtin; refine wplV_append3 rfl (.tmp 63) (.tmp 64) rfl w1.heap.size _ (n0 + 1) vsp rfl Op13 ⟨gs, 0, none⟩ (n0 + 1) cs vss rfl Rs13 (fun i hi => Fs13.slices i hi) (by omega) (by omega) (by omega) ?_; intro v14 w14 Op14 g14 b14) | (at_builtin; refine wplV_append3 rfl (.tmp 65) (.tmp 67) rfl w1.heap.size v14 (n0 + 1 + (n0 + 1)) _ rfl (Op14.alloc _) ⟨w14.heap.size, 0, none⟩ 1 1 (fun _ => .slice aj (n0 + n1 + n2) cj) rfl (RdV.lit w14 1 (fun _ => .slice aj (n0 + n1 + n2) cj) _ (by unfold maxLen; omega) (by simp [cellsV])) (by intro i _; exact ⟨_, _, _, rfl⟩) (by omega) (by omega) (by have := g14.size; simp; omega) ?_; intro v15 w15 Op15 g15 b15) | fail)
  have PF := parts_fam (B := w1.heap.size) (nj := n0 + n1 + n2) (⟨fun i hi => (Fp13.own i hi).base (by omega), Fp13.apart⟩) (unhide HRP) (⟨fun i hi => (Fs13.own i hi).base (by omega), Fs13.apart⟩) (unhide HRS) hj13 (unhide HRJ) (unhide HRVP) (unhide HAP) sz4 sz5 sz13 g14 b14 g15 b15
  have sz14 := g14.size
  have sz15 := g15.size
  simp at sz15
  have D14 : Below w1.heap.size w13 w14 := (Below.refl _ _).grown g14 (by omega) fun k e => by have := unhide HRVP k e; omega
  have D15 : Below w1.heap.size w13 w15 := (D14.alloc (by omega) _).grown g15 (by simp; omega) fun k e => by
    rcases b14 k e with h | h
    · have := unhide HRVP k h; omega
    · omega
  refine (apart_any w1.heap.size (n0 + 1 + (n0 + 1) + 1) v15 (allV n0 vsp vss (.slice aj (n0 + n1 + n2) cj)) (allN n0 (n0 + n1 + n2)) _ w15 Op15 PF.1 PF.2 (by omega) (by omega) ?_).mono ?_
  · intro i hi
    unfold allN
    split
    · omega
    · split <;> omega
  rintro e w16 ⟨rfl, hb16⟩
  have D16 := D15.trans hb16
  have L16 := L13.belowB hgl D16
  have B16 : Below w.heap.size w w16 := B13.trans (D16.mono (by omega))
  clear PF D14 D15 D16 hb16 b14 b15 g14 g15
  go_wp2_with fail
  refine (kept_any g n0 cap c0 f0 f0 a0 w16 L16 (h0.rd.below B16) fun _ _ => rfl).mono ?_
  rintro e w17 ⟨rfl, hb17⟩
  have B17 := bstep B16 hb17
  go_wp2_with fail
  refine (live_any _).mono ?_
  rintro e wl ⟨rfl, hbl⟩
  have Bl := bstep B17 hbl
  go_wp2
  go_ret
  exact ⟨rfl, Bl⟩

end Go.Proofs.Ytpbceijlpkggpaa
