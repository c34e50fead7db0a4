/-
  What the reference's At and place return.
-/
import Derived.Test.YtbhdcgebcmgidaaDoorRunes
import Derived.Test.YtbhdcgebcmgidaaDoorK1
namespace Go.Proofs.YtbhdcgebcmgidaaDoor
open Go.RowKit

def atC (s : ByteArray) (i : Nat) : Int := if brk s i = true then 0 else rn s i
def atN (s : ByteArray) (i : Nat) : Nat := if brk s i = true then 0 else wd s i

/-- The number made of a lead and j bytes behind it. -/
def accV (s : ByteArray) (i v0 : Nat) : Nat → Nat
  | 0 => v0
  | j + 1 => accV s i v0 j * 64 + (bt s (i + 1 + j) - 128)

/-- Which lead byte it is: how many bytes, what it is counted from, the least number. -/
def Lead (s : ByteArray) (i n o least : Nat) : Prop :=
  (n = 2 ∧ o = 192 ∧ least = 128 ∧ 192 ≤ bt s i ∧ bt s i < 224) ∨ (n = 3 ∧ o = 224 ∧ least = 2048 ∧ 224 ≤ bt s i ∧ bt s i < 240) ∨ (n = 4 ∧ o = 240 ∧ least = 65536 ∧ 240 ≤ bt s i ∧ bt s i < 248)
def Good (s : ByteArray) (i n o least : Nat) : Prop :=
  i + n ≤ s.size ∧ (∀ m, m + 1 < n → 128 ≤ bt s (i + 1 + m) ∧ bt s (i + 1 + m) < 192) ∧ least ≤ accV s i (bt s i - o) (n - 1) ∧ accV s i (bt s i - o) (n - 1) ≤ 1114111 ∧ ¬ (55296 ≤ accV s i (bt s i - o) (n - 1) ∧ accV s i (bt s i - o) (n - 1) ≤ 57343)

theorem acc1 (s : ByteArray) (i v : Nat) : accV s i v (2 - 1) = v * 64 + (bt s (i + 1) - 128) := rfl
theorem acc2 (s : ByteArray) (i v : Nat) : accV s i v (3 - 1) = (v * 64 + (bt s (i + 1) - 128)) * 64 + (bt s (i + 2) - 128) := rfl
theorem acc3 (s : ByteArray) (i v : Nat) : accV s i v (4 - 1) = ((v * 64 + (bt s (i + 1) - 128)) * 64 + (bt s (i + 2) - 128)) * 64 + (bt s (i + 3) - 128) := rfl

theorem at_good {s : ByteArray} {i n o least : Nat} (L : Lead s i n o least) (G : Good s i n o least) : atC s i = accV s i (bt s i - o) (n - 1) ∧ atN s i = n := by
  obtain ⟨g1, g2, g3, g4, g5⟩ := G
  rcases L with ⟨rfl, rfl, rfl, l1, l2⟩ | ⟨rfl, rfl, rfl, l1, l2⟩ | ⟨rfl, rfl, rfl, l1, l2⟩
  · have c0 : 128 ≤ bt s (i + 1) ∧ bt s (i + 1) < 192 := g2 0 (by omega)
    rw [acc1] at *
    have h : Two s i := ⟨l1, l2, by omega, c0.1, c0.2, g3⟩
    have e := brk_not (.inr (.inl h))
    unfold atC atN; rw [e, rn, wd, dec_two h]
    exact ⟨rfl, rfl⟩
  · have c0 : 128 ≤ bt s (i + 1) ∧ bt s (i + 1) < 192 := g2 0 (by omega)
    have c1 : 128 ≤ bt s (i + 2) ∧ bt s (i + 2) < 192 := g2 1 (by omega)
    rw [acc2] at *
    have h : Three s i := ⟨l1, l2, by omega, c0.1, c0.2, c1.1, c1.2, g3, by unfold v3; omega⟩
    have e := brk_not (.inr (.inr (.inl h)))
    unfold atC atN; rw [e, rn, wd, dec_three h]
    exact ⟨rfl, rfl⟩
  · have c0 : 128 ≤ bt s (i + 1) ∧ bt s (i + 1) < 192 := g2 0 (by omega)
    have c1 : 128 ≤ bt s (i + 2) ∧ bt s (i + 2) < 192 := g2 1 (by omega)
    have c2 : 128 ≤ bt s (i + 3) ∧ bt s (i + 3) < 192 := g2 2 (by omega)
    rw [acc3] at *
    have h : Four s i := ⟨l1, l2, by omega, c0.1, c0.2, c1.1, c1.2, c2.1, c2.2, g3, g4⟩
    have e := brk_not (.inr (.inr (.inr h)))
    unfold atC atN; rw [e, rn, wd, dec_four h]
    exact ⟨rfl, rfl⟩

theorem at_none {s : ByteArray} {i : Nat} (h : brk s i = true) : atC s i = 0 ∧ atN s i = 0 := by unfold atC atN; rw [h]; exact ⟨rfl, rfl⟩

theorem at_bad {s : ByteArray} {i n o least : Nat} (L : Lead s i n o least) (G : ¬ Good s i n o least) : atC s i = 0 ∧ atN s i = 0 := by
  refine at_none (brk_of ?_)
  unfold Good at G
  rcases L with ⟨rfl, rfl, rfl, l1, l2⟩ | ⟨rfl, rfl, rfl, l1, l2⟩ | ⟨rfl, rfl, rfl, l1, l2⟩
  · refine dec_bad (by omega) (fun h => G ?_) (fun h => by unfold Three at h; omega) (fun h => by unfold Four at h; omega)
    obtain ⟨_, _, h3, h4, h5, h6⟩ := h
    rw [acc1]
    refine ⟨by omega, fun m hm => ?_, by omega, by omega, by omega⟩
    obtain rfl : m = 0 := by omega
    exact ⟨h4, h5⟩
  · refine dec_bad (by omega) (fun h => by unfold Two at h; omega) (fun h => G ?_) (fun h => by unfold Four at h; omega)
    obtain ⟨_, _, h3, h4, h5, h6, h7, h8, h9⟩ := h
    unfold v3 at *
    rw [acc2]
    refine ⟨by omega, fun m hm => ?_, by omega, by omega, by omega⟩
    rcases (show m = 0 ∨ m = 1 by omega) with rfl | rfl
    · exact ⟨h4, h5⟩
    · exact ⟨h6, h7⟩
  · refine dec_bad (by omega) (fun h => by unfold Two at h; omega) (fun h => by unfold Three at h; omega) (fun h => G ?_)
    obtain ⟨_, _, h3, h4, h5, h6, h7, h8, h9, h10, h11⟩ := h
    unfold v4 at *
    rw [acc3]
    refine ⟨by omega, fun m hm => ?_, by omega, by omega, by omega⟩
    rcases (show m = 0 ∨ m = 1 ∨ m = 2 by omega) with rfl | rfl | rfl
    · exact ⟨h4, h5⟩
    · exact ⟨h6, h7⟩
    · exact ⟨h8, h9⟩

theorem at_one {s : ByteArray} {i : Nat} (h : bt s i < 128) : atC s i = bt s i ∧ atN s i = 1 := by
  have e := brk_not (.inl h)
  unfold atC atN; rw [e]
  simp [rn, wd, dec_one h]

theorem at_stray {s : ByteArray} {i : Nat} (h1 : 128 ≤ bt s i) (h2 : bt s i < 192 ∨ 248 ≤ bt s i) : atC s i = 0 ∧ atN s i = 0 :=
  at_none (brk_of (dec_bad h1 (fun h => by unfold Two at h; omega) (fun h => by unfold Three at h; omega) (fun h => by unfold Four at h; omega)))

theorem ret_at {a a' : Int} {b b' : Int} (h : a = a') (g : b = b') : Ending.returned (.tuple #[.int .i32 a, .int .i64 b]) = .returned (.tuple #[.int .i32 a', .int .i64 b']) := by rw [h, g]

theorem accV_zero (s : ByteArray) (i v0 : Nat) : accV s i v0 0 = v0 := rfl
theorem accV_succ (s : ByteArray) (i v0 j : Nat) : accV s i v0 (j + 1) = accV s i v0 j * 64 + (bt s (i + 1 + j) - 128) := rfl
theorem accV_lt (s : ByteArray) (i v0 : Nat) (h0 : v0 < 64) : ∀ j, (∀ m, m < j → 128 ≤ bt s (i + 1 + m) ∧ bt s (i + 1 + m) < 192) → accV s i v0 j < 64 ^ (j + 1)
  | 0, _ => by rw [accV_zero]; simpa using h0
  | j + 1, h => by
    have h1 := accV_lt s i v0 h0 j (fun m hm => h m (by omega))
    have h2 := h j (by omega)
    rw [Nat.pow_succ, accV_succ]
    omega

set_option maxRecDepth 100000 in
set_option maxHeartbeats 2000000 in
theorem At_lead (s : ByteArray) (i n o least : Nat) (w : World) (hi : i < s.size) (hs : s.size ≤ 9223372036854775807) (L : Lead s i n o least) :
    Calls Tryd.prog 37 #[.string s, .int .i64 i] w fun e w' => e = .returned (.tuple #[.int .i32 (atC s i), .int .i64 (atN s i)]) ∧ w' = w := by
  have hb := bt_get s i hi
  have q0 := bt_lt s i
  by_cases hsz : s.size - i < n
  · have H := hide (at_bad L (fun G => by unfold Good at G; omega))
    rcases L with ⟨rfl, rfl, rfl, l1, l2⟩ | ⟨rfl, rfl, rfl, l1, l2⟩ | ⟨rfl, rfl, rfl, l1, l2⟩
    all_goals
      go_enter Tryd.func37, Tryd.ntmps37
      go_wp2
      go_ret2
      exact ⟨ret_at (by rw [(unhide H).1]) (by rw [(unhide H).2]; rfl), rfl⟩
  · have HL := hide L
    rcases L with ⟨rfl, rfl, rfl, l1, l2⟩ | ⟨rfl, rfl, rfl, l1, l2⟩ | ⟨rfl, rfl, rfl, l1, l2⟩
    · have t1 : decide ((bt s i : Int) < 128) = false := by simp; omega
      have t2 : decide ((bt s i : Int) < 224) = true := by simp; omega
      go_enter Tryd.func37, Tryd.ntmps37
      go_wp2
      go_loopw [8, 10] (fun v k wr => wr = w ∧ ∃ j : Nat, j ≤ 1 ∧ k = .int .i64 (i + 1 + j : Nat) ∧ v = .int .i64 (accV s i (bt s i - 192) j : Nat) ∧ (∀ m, m < j → 128 ≤ bt s (i + 1 + m) ∧ bt s (i + 1 + m) < 192)) (fun _ k _ => i + 2 - (intOf k).toNat)
      case atStart => exact ⟨rfl, 0, by omega, by go_num, by rw [accV_zero]; go_num, fun m hm => by omega⟩
      case round =>
        obtain ⟨rfl, j, hj, rfl, rfl, hc⟩ := hrel
        have hv : accV s i (bt s i - 192) j < 16777216 := Nat.lt_of_lt_of_le (accV_lt s i _ (by omega) j hc) (Nat.le_trans (Nat.pow_le_pow_right (by omega) (show j + 1 ≤ 4 by omega)) (by decide))
        have HC := hide hc
        clear hc
        by_cases hlt : j < 1
        · have hk : i + 1 + j < s.size := by omega
          have hbj := bt_get s (i + 1 + j) hk
          have qj := bt_lt s (i + 1 + j)
          by_cases ha : bt s (i + 1 + j) < 128
          · have H := hide (at_bad (unhide HL) (fun G => by have := G.2.1 j (by omega); omega))
            go_wp2
            go_ret2
            exact ⟨ret_at (by rw [(unhide H).1]) (by rw [(unhide H).2]; rfl), rfl⟩
          by_cases hb' : 192 ≤ bt s (i + 1 + j)
          · have H := hide (at_bad (unhide HL) (fun G => by have := G.2.1 j (by omega); omega))
            go_wp2
            go_ret2
            exact ⟨ret_at (by rw [(unhide H).1]) (by rw [(unhide H).2]; rfl), rfl⟩
          · go_wp2
            go_roundw
            case rel =>
              refine ⟨trivial, j + 1, by omega, by go_num, by rw [accV_succ]; go_num, fun m hm => ?_⟩
              by_cases e : m = j
              · subst e; omega
              · exact unhide HC m (by omega)
            case measure => simp [intOf]; omega
        · obtain rfl : j = 1 := by omega
          obtain ⟨v, HV0⟩ : ∃ v, accV s i (bt s i - 192) 1 = v := ⟨_, rfl⟩
          rw [HV0] at hv ⊢
          have HV : Hid (accV s i (bt s i - 192) (2 - 1) = v) := hide HV0
          clear HV0
          by_cases g1 : v < 128
          · have H := hide (at_bad (unhide HL) (fun G => by have := G.2.2.1; rw [unhide HV] at this; omega))
            go_wp2
            go_ret2
            exact ⟨ret_at (by rw [(unhide H).1]) (by rw [(unhide H).2]; rfl), rfl⟩
          by_cases g2 : 1114111 < v
          · have H := hide (at_bad (unhide HL) (fun G => by have := G.2.2.2.1; rw [unhide HV] at this; omega))
            go_wp2
            go_ret2
            exact ⟨ret_at (by rw [(unhide H).1]) (by rw [(unhide H).2]; rfl), rfl⟩
          by_cases g3 : 55296 ≤ v
          · by_cases g4 : v ≤ 57343
            · have H := hide (at_bad (unhide HL) (fun G => by have := G.2.2.2.2; rw [unhide HV] at this; omega))
              go_wp2
              go_ret2
              exact ⟨ret_at (by rw [(unhide H).1]) (by rw [(unhide H).2]; rfl), rfl⟩
            · have H := hide (at_good (unhide HL) ⟨by omega, fun m hm => unhide HC m (by omega), by rw [unhide HV]; omega, by rw [unhide HV]; omega, by rw [unhide HV]; omega⟩)
              go_wp2
              go_ret2
              exact ⟨ret_at (by rw [(unhide H).1, unhide HV]) (by rw [(unhide H).2]; rfl), rfl⟩
          · have H := hide (at_good (unhide HL) ⟨by omega, fun m hm => unhide HC m (by omega), by rw [unhide HV]; omega, by rw [unhide HV]; omega, by rw [unhide HV]; omega⟩)
            go_wp2
            go_ret2
            exact ⟨ret_at (by rw [(unhide H).1, unhide HV]) (by rw [(unhide H).2]; rfl), rfl⟩
    · have t1 : decide ((bt s i : Int) < 128) = false := by simp; omega
      have t2 : decide ((bt s i : Int) < 224) = false := by simp; omega
      have t3 : decide ((bt s i : Int) < 240) = true := by simp; omega
      go_enter Tryd.func37, Tryd.ntmps37
      go_wp2
      go_loopw [8, 10] (fun v k wr => wr = w ∧ ∃ j : Nat, j ≤ 2 ∧ k = .int .i64 (i + 1 + j : Nat) ∧ v = .int .i64 (accV s i (bt s i - 224) j : Nat) ∧ (∀ m, m < j → 128 ≤ bt s (i + 1 + m) ∧ bt s (i + 1 + m) < 192)) (fun _ k _ => i + 3 - (intOf k).toNat)
      case atStart => exact ⟨rfl, 0, by omega, by go_num, by rw [accV_zero]; go_num, fun m hm => by omega⟩
      case round =>
        obtain ⟨rfl, j, hj, rfl, rfl, hc⟩ := hrel
        have hv : accV s i (bt s i - 224) j < 16777216 := Nat.lt_of_lt_of_le (accV_lt s i _ (by omega) j hc) (Nat.le_trans (Nat.pow_le_pow_right (by omega) (show j + 1 ≤ 4 by omega)) (by decide))
        have HC := hide hc
        clear hc
        by_cases hlt : j < 2
        · have hk : i + 1 + j < s.size := by omega
          have hbj := bt_get s (i + 1 + j) hk
          have qj := bt_lt s (i + 1 + j)
          by_cases ha : bt s (i + 1 + j) < 128
          · have H := hide (at_bad (unhide HL) (fun G => by have := G.2.1 j (by omega); omega))
            go_wp2
            go_ret2
            exact ⟨ret_at (by rw [(unhide H).1]) (by rw [(unhide H).2]; rfl), rfl⟩
          by_cases hb' : 192 ≤ bt s (i + 1 + j)
          · have H := hide (at_bad (unhide HL) (fun G => by have := G.2.1 j (by omega); omega))
            go_wp2
            go_ret2
            exact ⟨ret_at (by rw [(unhide H).1]) (by rw [(unhide H).2]; rfl), rfl⟩
          · go_wp2
            go_roundw
            case rel =>
              refine ⟨trivial, j + 1, by omega, by go_num, by rw [accV_succ]; go_num, fun m hm => ?_⟩
              by_cases e : m = j
              · subst e; omega
              · exact unhide HC m (by omega)
            case measure => simp [intOf]; omega
        · obtain rfl : j = 2 := by omega
          obtain ⟨v, HV0⟩ : ∃ v, accV s i (bt s i - 224) 2 = v := ⟨_, rfl⟩
          rw [HV0] at hv ⊢
          have HV : Hid (accV s i (bt s i - 224) (3 - 1) = v) := hide HV0
          clear HV0
          by_cases g1 : v < 2048
          · have H := hide (at_bad (unhide HL) (fun G => by have := G.2.2.1; rw [unhide HV] at this; omega))
            go_wp2
            go_ret2
            exact ⟨ret_at (by rw [(unhide H).1]) (by rw [(unhide H).2]; rfl), rfl⟩
          by_cases g2 : 1114111 < v
          · have H := hide (at_bad (unhide HL) (fun G => by have := G.2.2.2.1; rw [unhide HV] at this; omega))
            go_wp2
            go_ret2
            exact ⟨ret_at (by rw [(unhide H).1]) (by rw [(unhide H).2]; rfl), rfl⟩
          by_cases g3 : 55296 ≤ v
          · by_cases g4 : v ≤ 57343
            · have H := hide (at_bad (unhide HL) (fun G => by have := G.2.2.2.2; rw [unhide HV] at this; omega))
              go_wp2
              go_ret2
              exact ⟨ret_at (by rw [(unhide H).1]) (by rw [(unhide H).2]; rfl), rfl⟩
            · have H := hide (at_good (unhide HL) ⟨by omega, fun m hm => unhide HC m (by omega), by rw [unhide HV]; omega, by rw [unhide HV]; omega, by rw [unhide HV]; omega⟩)
              go_wp2
              go_ret2
              exact ⟨ret_at (by rw [(unhide H).1, unhide HV]) (by rw [(unhide H).2]; rfl), rfl⟩
          · have H := hide (at_good (unhide HL) ⟨by omega, fun m hm => unhide HC m (by omega), by rw [unhide HV]; omega, by rw [unhide HV]; omega, by rw [unhide HV]; omega⟩)
            go_wp2
            go_ret2
            exact ⟨ret_at (by rw [(unhide H).1, unhide HV]) (by rw [(unhide H).2]; rfl), rfl⟩
    · have t1 : decide ((bt s i : Int) < 128) = false := by simp; omega
      have t2 : decide ((bt s i : Int) < 224) = false := by simp; omega
      have t3 : decide ((bt s i : Int) < 240) = false := by simp; omega
      have t4 : decide ((bt s i : Int) < 248) = true := by simp; omega
      go_enter Tryd.func37, Tryd.ntmps37
      go_wp2
      go_loopw [8, 10] (fun v k wr => wr = w ∧ ∃ j : Nat, j ≤ 3 ∧ k = .int .i64 (i + 1 + j : Nat) ∧ v = .int .i64 (accV s i (bt s i - 240) j : Nat) ∧ (∀ m, m < j → 128 ≤ bt s (i + 1 + m) ∧ bt s (i + 1 + m) < 192)) (fun _ k _ => i + 4 - (intOf k).toNat)
      case atStart => exact ⟨rfl, 0, by omega, by go_num, by rw [accV_zero]; go_num, fun m hm => by omega⟩
      case round =>
        obtain ⟨rfl, j, hj, rfl, rfl, hc⟩ := hrel
        have hv : accV s i (bt s i - 240) j < 16777216 := Nat.lt_of_lt_of_le (accV_lt s i _ (by omega) j hc) (Nat.le_trans (Nat.pow_le_pow_right (by omega) (show j + 1 ≤ 4 by omega)) (by decide))
        have HC := hide hc
        clear hc
        by_cases hlt : j < 3
        · have hk : i + 1 + j < s.size := by omega
          have hbj := bt_get s (i + 1 + j) hk
          have qj := bt_lt s (i + 1 + j)
          by_cases ha : bt s (i + 1 + j) < 128
          · have H := hide (at_bad (unhide HL) (fun G => by have := G.2.1 j (by omega); omega))
            go_wp2
            go_ret2
            exact ⟨ret_at (by rw [(unhide H).1]) (by rw [(unhide H).2]; rfl), rfl⟩
          by_cases hb' : 192 ≤ bt s (i + 1 + j)
          · have H := hide (at_bad (unhide HL) (fun G => by have := G.2.1 j (by omega); omega))
            go_wp2
            go_ret2
            exact ⟨ret_at (by rw [(unhide H).1]) (by rw [(unhide H).2]; rfl), rfl⟩
          · go_wp2
            go_roundw
            case rel =>
              refine ⟨trivial, j + 1, by omega, by go_num, by rw [accV_succ]; go_num, fun m hm => ?_⟩
              by_cases e : m = j
              · subst e; omega
              · exact unhide HC m (by omega)
            case measure => simp [intOf]; omega
        · obtain rfl : j = 3 := by omega
          obtain ⟨v, HV0⟩ : ∃ v, accV s i (bt s i - 240) 3 = v := ⟨_, rfl⟩
          rw [HV0] at hv ⊢
          have HV : Hid (accV s i (bt s i - 240) (4 - 1) = v) := hide HV0
          clear HV0
          by_cases g1 : v < 65536
          · have H := hide (at_bad (unhide HL) (fun G => by have := G.2.2.1; rw [unhide HV] at this; omega))
            go_wp2
            go_ret2
            exact ⟨ret_at (by rw [(unhide H).1]) (by rw [(unhide H).2]; rfl), rfl⟩
          by_cases g2 : 1114111 < v
          · have H := hide (at_bad (unhide HL) (fun G => by have := G.2.2.2.1; rw [unhide HV] at this; omega))
            go_wp2
            go_ret2
            exact ⟨ret_at (by rw [(unhide H).1]) (by rw [(unhide H).2]; rfl), rfl⟩
          have g3 : ¬ v ≤ 57343 := by omega
          · have H := hide (at_good (unhide HL) ⟨by omega, fun m hm => unhide HC m (by omega), by rw [unhide HV]; omega, by rw [unhide HV]; omega, by rw [unhide HV]; omega⟩)
            go_wp2
            go_ret2
            exact ⟨ret_at (by rw [(unhide H).1, unhide HV]) (by rw [(unhide H).2]; rfl), rfl⟩

set_option maxRecDepth 100000 in
theorem At_any (s : ByteArray) (i : Nat) (w : World) (hi : i < s.size) (hs : s.size ≤ 9223372036854775807) :
    Calls Tryd.prog 37 #[.string s, .int .i64 i] w fun e w' => e = .returned (.tuple #[.int .i32 (atC s i), .int .i64 (atN s i)]) ∧ w' = w := by
  have hb := bt_get s i hi
  have q0 := bt_lt s i
  by_cases c1 : bt s i < 128
  · have H := hide (at_one c1)
    go_enter Tryd.func37, Tryd.ntmps37
    go_wp2
    go_ret2
    exact ⟨ret_at (by rw [(unhide H).1]) (by rw [(unhide H).2]; rfl), rfl⟩
  by_cases c2 : bt s i < 192
  · have H := hide (at_stray (s := s) (i := i) (by omega) (.inl c2))
    go_enter Tryd.func37, Tryd.ntmps37
    go_wp2
    go_ret2
    exact ⟨ret_at (by rw [(unhide H).1]) (by rw [(unhide H).2]; rfl), rfl⟩
  by_cases c3 : bt s i < 224
  · exact At_lead s i 2 192 128 w hi hs (.inl ⟨rfl, rfl, rfl, by omega, c3⟩)
  by_cases c4 : bt s i < 240
  · exact At_lead s i 3 224 2048 w hi hs (.inr (.inl ⟨rfl, rfl, rfl, by omega, c4⟩))
  by_cases c5 : bt s i < 248
  · exact At_lead s i 4 240 65536 w hi hs (.inr (.inr ⟨rfl, rfl, rfl, by omega, c5⟩))
  · have H := hide (at_stray (s := s) (i := i) (by omega) (.inr (by omega)))
    go_enter Tryd.func37, Tryd.ntmps37
    go_wp2
    go_ret2
    exact ⟨ret_at (by rw [(unhide H).1]) (by rw [(unhide H).2]; rfl), rfl⟩

end Go.Proofs.YtbhdcgebcmgidaaDoor
